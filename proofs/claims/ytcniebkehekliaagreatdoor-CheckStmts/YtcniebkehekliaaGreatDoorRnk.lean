/- How strongly a word binds (Rank, keyRank, signRank). -/
import Derived.Test.YtcniebkehekliaaGreatDoorPln
namespace Go.Proofs.YtcniebkehekliaaGreatDoor
open Go.RowKit Go.Shelf
attribute [local go_sem] Oper.semAt_some fw0 fw1 fw2
theorem toList_go (a : ByteArray) : ∀ (n i : Nat) (r : List UInt8), a.size - i = n → ByteArray.toList.loop a i r = r.reverse ++ a.data.toList.drop i
  | 0, i, r, h => by
    unfold ByteArray.toList.loop
    have h1 : ¬ i < a.size := by omega
    rw [if_neg h1, List.drop_of_length_le (by have : a.data.toList.length = a.size := rfl; omega), List.append_nil]
  | n + 1, i, r, h => by
    unfold ByteArray.toList.loop
    have h1 : i < a.size := by omega
    have h2 : i < a.data.toList.length := h1
    rw [if_pos h1, toList_go a n (i + 1) _ (by omega), List.reverse_cons, List.append_assoc, List.drop_eq_getElem_cons h2]
    congr 2
    rw [List.singleton_append]
    congr 1
    show a.data[i]! = _
    rw [getElem!_pos a.data i h1]
    rfl
theorem toList_data (a : ByteArray) : a.toList = a.data.toList := by
  unfold ByteArray.toList
  rw [toList_go a _ 0 [] rfl]
  rfl
theorem wdS_list (x : Wd) : (wdS x).toList = x.s := by rw [toList_data]; rfl
theorem isW_isP (x : Wd) (k : Nat) (l : List UInt8) : isW x k ⟨l.toArray⟩ = isP x k l := by
  unfold isW isP
  rw [wdS_list, toList_data]
theorem mustP_mustQ (ws : List Wd) (s : PS) (k : Nat) (l : List UInt8) : mustP ws s k ⟨l.toArray⟩ = mustQ ws s k l := by
  unfold mustP mustQ
  rw [isW_isP]
set_option maxRecDepth 100000 in
set_option maxHeartbeats 4000000 in
theorem keyRank_any (t : ByteArray) (w : World) : Calls Tryz.prog 152 #[.string t] w fun r w' => r = .returned (.int .i64 (keyR t.toList)) ∧ w' = w := by
  go_enter Tryz.func152, Tryz.ntmps152
  go_wp2
  all_goals
    go_ret
    refine ⟨?_, rfl⟩
    unfold keyR
    simp_all
set_option maxRecDepth 100000 in
set_option maxHeartbeats 4000000 in
theorem signRank_any (t : ByteArray) (w : World) : Calls Tryz.prog 153 #[.string t] w fun r w' => r = .returned (.int .i64 (signR t.toList)) ∧ w' = w := by
  go_enter Tryz.func153, Tryz.ntmps153
  go_wp2
  all_goals
    go_ret
    refine ⟨?_, rfl⟩
    unfold signR
    simp_all
set_option maxRecDepth 100000 in
set_option maxHeartbeats 4000000 in
theorem rank_any (x : Wd) (w : World) : Calls Tryz.prog 133 #[wdV x] w fun r w' => r = .returned (.int .i64 (rankI x)) ∧ Below w.heap.size w w' := by
  unfold wdV rankI
  have kk := fun W => keyRank_any (wdS x) W
  have ks := fun W => signRank_any (wdS x) W
  rw [wdS_list] at kk ks
  obtain ⟨kr, hkr⟩ : ∃ kr, keyR x.s = kr := ⟨_, rfl⟩
  obtain ⟨sr, hsr⟩ : ∃ sr, signR x.s = sr := ⟨_, rfl⟩
  rw [hkr] at kk ⊢
  rw [hsr] at ks ⊢
  obtain ⟨xk, hxk⟩ : ∃ xk, x.k = xk := ⟨_, rfl⟩
  obtain ⟨xa, hxa⟩ : ∃ xa, (x.a : Int) = xa := ⟨_, rfl⟩
  obtain ⟨xt, hxt⟩ : ∃ xt, wdS x = xt := ⟨_, rfl⟩
  rw [hxt] at kk ks ⊢
  rw [hxk, hxa]
  clear hkr hsr hxk hxa hxt
  by_cases h2 : xk = 2
  · subst h2
    rw [if_pos rfl]
    go_enter Tryz.func133, Tryz.ntmps133
    go_wp2_with fail
    refine (kk _).mono ?_
    rintro q w1 ⟨rfl, rfl⟩
    clear kk ks
    go_wp2
    go_ret
    exact ⟨rfl, (Below.refl _ _).alloc (Nat.le_refl _) _⟩
  · rw [if_neg h2]
    have h2' : ¬ ((xk : Int) = 2) := by omega
    by_cases h6 : xk = 6
    · subst h6
      rw [if_pos rfl]
      go_enter Tryz.func133, Tryz.ntmps133
      go_wp2_with fail
      refine (ks _).mono ?_
      rintro q w1 ⟨rfl, rfl⟩
      clear kk ks
      go_wp2
      go_ret
      exact ⟨rfl, (Below.refl _ _).alloc (Nat.le_refl _) _⟩
    · rw [if_neg h6]
      have h6' : ¬ ((xk : Int) = 6) := by omega
      go_enter Tryz.func133, Tryz.ntmps133
      go_wp2
      go_ret
      exact ⟨rfl, (Below.refl _ _).alloc (Nat.le_refl _) _⟩
end Go.Proofs.YtcniebkehekliaaGreatDoor
