/- A text's bytes in a key, behind others (putText); yes and no (putBool). -/
import Derived.Test.YtaacbcnpagpdnaaDoorKkey
import Derived.Test.YtaacbcnpagpdnaaDoorShelf
import Derived.Lib.SplitLaws
namespace Go.Proofs.YtaacbcnpagpdnaaDoor
open Go.RowKit
theorem esc_replace (s : List UInt8) : Lib.replaceK [0] [0, 255] (Lib.count s [0]) s = escL s := by
  induction s with
  | nil => rfl
  | cons c r ih =>
    by_cases hc : c = 0
    · subst hc
      have hi : Lib.index (0 :: r) [0] = ((0 : Nat) : Int) := by simp [Lib.index]
      rw [Lib.count_cons_eq, Nat.add_comm, Lib.replaceK_hit _ _ _ _ 0 hi]
      show [0, 255] ++ Lib.replaceK [0] [0, 255] (Lib.count r [0]) r = _
      rw [ih]
      simp [escL]
    · rw [Lib.count_cons_ne _ _ _ hc]
      have e : escL (c :: r) = c :: escL r := by rw [escL, if_neg hc]
      rw [e, ← ih]
      cases hk : Lib.count r [0] with
      | zero => rfl
      | succ k =>
        obtain ⟨i, hi⟩ := Lib.index_of_count (s := r) (old := [0]) (by omega)
        have hi2 : Lib.index (c :: r) [0] = ((i + 1 : Nat) : Int) := by
          rw [Lib.index, hi, if_neg (by simp [Ne.symm hc]), if_neg (by simp)]
          omega
        rw [Lib.replaceK_hit _ _ _ _ i hi, Lib.replaceK_hit _ _ _ _ (i + 1) hi2]
        rfl
theorem esc_all (s : List UInt8) : Lib.replaceAll s [0] [0, 255] = escL s := by
  unfold Lib.replaceAll Lib.replace Lib.replaceNum
  rw [if_neg (by decide), if_pos (Or.inl (by decide))]
  exact esc_replace s
theorem escL_len (s : List UInt8) : (escL s).length ≤ 2 * s.length := by
  induction s with
  | nil => exact Nat.le_refl _
  | cons c r ih =>
    rw [escL, List.length_cons, List.length_cons]
    split
    · rw [List.length_cons]; omega
    · omega
theorem ktextL_len (s : ByteArray) : (ktextL s).length ≤ 2 * s.size + 2 := by
  unfold ktextL
  have := escL_len s.data.toList
  have e := Lib.size_eq s
  rw [List.length_append]
  show _ + 2 ≤ _
  omega
set_option maxRecDepth 20000 in
set_option maxHeartbeats 2000000 in
theorem putBool_any (b : Nat) (l : List UInt8) (y : Bool) (w : World) (hbl : Bld w b l) (hl : l.length ≤ 900001) :
    Calls Tryd.prog 36 #[.pointer (some ⟨b, 0, none⟩), .bool y] w fun e w' => e = .returned (.tuple #[]) ∧ Bld w' b (l ++ [if y then 1 else 0]) ∧ Below b w w' ∧ Tame w w' := by
  cases y with
  | true =>
    go_enter Tryd.func36, Tryd.ntmps36
    go_wp2_with fail
    refine (b_byte b l 1 w hbl (by omega) 1 (by decide)).mono ?_
    rintro e w1 ⟨rfl, h1, h2, h3⟩
    go_wp2
    go_end0
    exact ⟨rfl, h1, h2, h3⟩
  | false =>
    go_enter Tryd.func36, Tryd.ntmps36
    go_wp2_with fail
    refine (b_byte b l 0 w hbl (by omega) 0 (by decide)).mono ?_
    rintro e w1 ⟨rfl, h1, h2, h3⟩
    go_wp2
    go_end0
    exact ⟨rfl, h1, h2, h3⟩
def Gm (w : World) : Prop := ∃ m : Int, w.cell? ⟨0, 0, none⟩ = some (.int .i64 m)
theorem Gm.later {w w' : World} {B : Nat} (h : Gm w) (hb : Below B w w') (hB : 0 < B) : Gm w' := by
  obtain ⟨m, hm⟩ := h
  exact ⟨m, cell_later hm hB hb⟩
set_option maxRecDepth 20000 in
set_option maxHeartbeats 2000000 in
theorem putText_any (b : Nat) (l : List UInt8) (s : ByteArray) (w : World) (hg : Gm w) (hbl : Bld w b l) (hl : l.length ≤ 900001) (hs : s.size ≤ 4096) :
    Calls Tryd.prog 38 #[.pointer (some ⟨b, 0, none⟩), .string s] w fun e w' => e = .returned (.tuple #[]) ∧ Bld w' b (l ++ ktextL s) ∧ Below b w w' ∧ Tame w w' := by
  obtain ⟨m, hm⟩ := hg
  have hcl : Lib.countB s ⟨#[0]⟩ ≤ s.size := Lib.countB_le ⟨#[0]⟩ (by decide) s.size s (Nat.le_refl _)
  have hr := Tryd.strings_ReplaceAll s ⟨#[0]⟩ ⟨#[0, 255]⟩ m w (by omega) hm (by decide) (by
    have h2 : (⟨#[0, 255]⟩ : ByteArray).size = 2 := rfl
    rw [h2]; omega)
  rw [show (⟨#[0]⟩ : ByteArray).data.toList = [0] from rfl, show (⟨#[0, 255]⟩ : ByteArray).data.toList = [0, 255] from rfl, esc_all] at hr
  have hel := escL_len s.data.toList
  rw [← Lib.size_eq] at hel
  obtain ⟨u, hu⟩ : ∃ u : ByteArray, (⟨(escL s.data.toList).toArray⟩ : ByteArray) = u := ⟨_, rfl⟩
  have HU : Hid (u.data.toList = escL s.data.toList) := by show _ = _; rw [← hu]
  have hus : u.size ≤ 8192 := by rw [Lib.size_eq, HU.out]; omega
  rw [hu] at hr
  clear hu hcl
  have hb0 := hbl.lt
  go_enter Tryd.func38, Tryd.ntmps38
  go_wp2_with fail
  refine hr.mono ?_
  rintro e w1 ⟨rfl, hb1⟩
  go_wp2_with fail
  refine (b_text b l u w1 (hbl.later hb1) (by omega) (by omega)).mono ?_
  rintro e w2 ⟨rfl, hbl2, hbb2, ht2⟩
  rw [HU.out] at hbl2
  go_wp2_with fail
  refine (b_text b _ ⟨#[0, 1]⟩ w2 hbl2 (by rw [List.length_append]; omega) (by decide)).mono ?_
  rintro e w3 ⟨rfl, hbl3, hbb3, ht3⟩
  go_wp2
  go_end0
  refine ⟨rfl, ?_, ((hb1.mono (by omega)).trans hbb2).trans hbb3, ((Tame.ofBelow hb1).trans ht2).trans ht3⟩
  unfold ktextL
  rw [← List.append_assoc]
  exact hbl3
end Go.Proofs.YtaacbcnpagpdnaaDoor
