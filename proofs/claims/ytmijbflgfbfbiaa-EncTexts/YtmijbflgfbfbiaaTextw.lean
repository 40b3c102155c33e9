/- The law EncTexts, called: of any text, yes or no, and number the call returns true, and nothing that was there has changed. -/
import Derived.Test.YtmijbflgfbfbiaaTexts
import Derived.WalkKit
import Derived.WalkSpells
import Derived.WalkLawsBesides
import Derived.Deep.QuietTactic
import Derived.BigQuiet
import Derived.Lib.Strings
namespace Go.Proofs.Ytmijbflgfbfbiaa
open Go.RowKit
set_option maxHeartbeats 1000000 in
theorem law_texts (s : ByteArray) (b : Bool) (m : Int) (w : World) :
    Calls Try.prog 7 #[.string s, .bool b, .int .i64 m] w fun e w' => e = .returned (.bool true) ∧ Below w.heap.size w w' := by
  have hfe := fun W => few_any s W
  have ht := fewB_size s
  obtain ⟨t, hfew⟩ : ∃ t, fewB s = t := ⟨_, rfl⟩
  simp only [hfew] at hfe
  rw [hfew] at ht
  clear hfew
  have h10 := put_len10 (n := t.size) (by omega)
  have hxs : (textB t).size = (put t.size).length + t.size := by unfold textB; rw [ByteArray.size_append, put_size]
  have hys := boolB_size b
  have hzs := allB_size t b
  have htx := fun W => etext_any t ht W
  have hrx := fun W => rtx_any t ht W
  have hbx := fun W => ebool_any b W
  have hsx := fun W => rbo_any b W
  have htake := fun (W : World) (g : Nat) (h : Cur W g (allB t b) ((0 : Nat) : Int) 0) => text_at h (Nat.zero_le _) (by rw [hzs]; omega) m
  have hbool := fun (W : World) (g : Nat) (h : Cur W g (allB t b) (((put t.size).length + t.size : Nat) : Int) 0) => bool_at h (by rw [hzs]; omega) (by rw [hzs]; omega)
  have hend := fun (W : World) (g : Nat) (h : Cur W g (allB t b) (((put t.size).length + t.size + 1 : Nat) : Int) 0) => end_ok h
  simp only [allB_bool t b] at hbool
  simp only [if_neg (show ¬ ((put t.size).length + t.size + 1 < (allB t b).size) by rw [hzs]; omega)] at hend
  have hz : textB t ++ boolB b = allB t b := rfl
  obtain ⟨z, hz'⟩ : ∃ z, allB t b = z := ⟨_, rfl⟩
  obtain ⟨x, hx'⟩ : ∃ x, textB t = x := ⟨_, rfl⟩
  obtain ⟨y, hy'⟩ : ∃ y, boolB b = y := ⟨_, rfl⟩
  have hsum : x.size + y.size ≤ 9223372036854775807 := by rw [← hx', ← hy', hxs, hys]; omega
  by_cases hm : m < (t.size : Int)
  · simp only [allB_few t b m ht hm] at htake
    rw [hz'] at hz
    simp only [hz'] at htake
    simp only [hx'] at htx hrx hz
    simp only [hy'] at hbx hsx hz
    clear hbool hend hz' hx' hy' hxs hys hzs
    go_enter Try.func7, Try.ntmps7
    go_wp2_with fail
    refine (hfe _).mono ?_
    rintro e w1 ⟨rfl, rfl⟩
    go_wp2_with fail
    refine (htx _).mono ?_
    rintro e w2 ⟨rfl, hb2⟩
    go_wp2_with fail
    refine (hbx _).mono ?_
    rintro e w3 ⟨rfl, rfl⟩
    go_wp2_with fail
    refine (at_any _ _).mono ?_
    rintro e w4 ⟨rfl, rfl⟩
    have hc4 := cur_new w3 z
    have g4 := hb2.alloc hb2.size (.cells #[.string z, .int .i64 0, .int .i64 0] 61)
    go_wp2_with fail
    refine (htake _ _ hc4).mono ?_
    rintro e w5 ⟨rfl, hk5, ho5⟩
    have g5 := g4.trans (ho5.below hb2.size g4.size)
    go_wp2_with fail
    refine (awake_any _).mono ?_
    rintro e w6 ⟨rfl, hb6⟩
    have g6 := g5.trans (hb6.mono g5.size)
    go_wp2_with fail
    refine (htx _).mono ?_
    rintro e w7 ⟨rfl, hb7⟩
    have g7 := g6.trans (hb7.mono g6.size)
    go_wp2_with fail
    refine (hrx _).mono ?_
    rintro e w8 ⟨rfl, hb8⟩
    have g8 := g7.trans (hb8.mono g7.size)
    go_wp2_with fail
    refine (hbx _).mono ?_
    rintro e w9 ⟨rfl, rfl⟩
    go_wp2_with fail
    refine (hsx _).mono ?_
    rintro e w9 ⟨rfl, rfl⟩
    have hk9 := ((hk5.later hb6).later hb7).later hb8
    go_wp2_with fail
    refine (err_at hk9).mono ?_
    rintro e w9 ⟨rfl, rfl⟩
    go_wp2_with fail
    refine (off_at hk9).mono ?_
    rintro e w9 ⟨rfl, rfl⟩
    go_wp2
    go_ret
    exact ⟨rfl, g8⟩
  · simp only [allB_text t b m ht hm] at htake
    rw [hz'] at hz
    simp only [hz'] at htake hbool hend
    simp only [hx'] at htx hrx hz
    simp only [hy'] at hbx hsx hz
    obtain ⟨L, hL⟩ : ∃ L : Int, (((put t.size).length + t.size : Nat) : Int) = L := ⟨_, rfl⟩
    obtain ⟨L1, hL1⟩ : ∃ L1 : Int, (((put t.size).length + t.size + 1 : Nat) : Int) = L1 := ⟨_, rfl⟩
    rw [hL] at htake hbool
    rw [hL1] at hbool hend
    clear hz' hx' hy' hxs hys hzs hL hL1
    go_enter Try.func7, Try.ntmps7
    go_wp2_with fail
    refine (hfe _).mono ?_
    rintro e w1 ⟨rfl, rfl⟩
    go_wp2_with fail
    refine (htx _).mono ?_
    rintro e w2 ⟨rfl, hb2⟩
    go_wp2_with fail
    refine (hbx _).mono ?_
    rintro e w3 ⟨rfl, rfl⟩
    go_wp2_with fail
    refine (at_any _ _).mono ?_
    rintro e w4 ⟨rfl, rfl⟩
    have hc4 := cur_new w3 z
    have g4 := hb2.alloc hb2.size (.cells #[.string z, .int .i64 0, .int .i64 0] 61)
    go_wp2_with fail
    refine (htake _ _ hc4).mono ?_
    rintro e w5 ⟨rfl, hk5, ho5⟩
    have g5 := g4.trans (ho5.below hb2.size g4.size)
    go_wp2_with fail
    refine (awake_any _).mono ?_
    rintro e w6 ⟨rfl, hb6⟩
    have g6 := g5.trans (hb6.mono g5.size)
    go_wp2_with fail
    refine (htx _).mono ?_
    rintro e w7 ⟨rfl, hb7⟩
    have g7 := g6.trans (hb7.mono g6.size)
    go_wp2_with fail
    refine (hrx _).mono ?_
    rintro e w8 ⟨rfl, hb8⟩
    have g8 := g7.trans (hb8.mono g7.size)
    go_wp2_with fail
    refine (hbx _).mono ?_
    rintro e w9 ⟨rfl, rfl⟩
    go_wp2_with fail
    refine (hsx _).mono ?_
    rintro e w9 ⟨rfl, rfl⟩
    have hk9 := ((hk5.later hb6).later hb7).later hb8
    go_wp2_with fail
    refine (hbool _ _ hk9).mono ?_
    rintro e w10 ⟨rfl, hk10, ho10⟩
    have g10 := g8.trans (ho10.below hb2.size g8.size)
    go_wp2_with fail
    refine (hend _ _ hk10).mono ?_
    rintro e w11 ⟨rfl, ho11⟩
    go_wp2
    go_ret
    exact ⟨rfl, g10.trans (ho11.below hb2.size g10.size)⟩
end Go.Proofs.Ytmijbflgfbfbiaa
