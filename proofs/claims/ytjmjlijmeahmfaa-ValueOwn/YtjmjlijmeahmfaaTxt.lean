/- The calls of a cursor that take a text, and yes or no (Text, Bool). -/
import Derived.Test.YtjmjlijmeahmfaaAnt
import Derived.WalkKit
import Derived.WalkSpells
import Derived.WalkLawsBesides
import Derived.Deep.QuietTactic
import Derived.BigQuiet
import Derived.Lib.Strings
namespace Go.Proofs.Ytjmjlijmeahmfaa
open Go.RowKit
set_option maxHeartbeats 400000 in
theorem text_nil (m : Int) (w : World) : Calls Try.prog 75 #[.pointer none, .int .i64 m] w fun e w' => e = .returned (.string ⟨#[]⟩) ∧ w' = w := by
  by_cases hm : m ≤ 1048576
  all_goals
    go_enter Try.func75, Try.ntmps75
    go_wp2_with fail
    refine (count_nil _ _).mono ?_
    rintro e w1 ⟨rfl, rfl⟩
    go_wp2_with fail
    refine (piece_nil _ _ _).mono ?_
    rintro e w1 ⟨rfl, rfl⟩
    go_wp2_with fail
    refine (skip_nil _ _).mono ?_
    rintro e w1 ⟨rfl, rfl⟩
    go_wp2
    go_ret
    exact ⟨rfl, rfl⟩
set_option maxHeartbeats 400000 in
theorem text_err {w : World} {b : Nat} {s : ByteArray} {o er : Int} (hcu : Cur w b s o er) (h0 : er ≠ 0) (m : Int) :
    Calls Try.prog 75 #[.pointer (some ⟨b, 0, none⟩), .int .i64 m] w fun e w' => e = .returned (.string ⟨#[]⟩) ∧ Cur w' b s o er ∧ Only b w w' := by
  by_cases hm : m ≤ 1048576
  all_goals
    go_enter Try.func75, Try.ntmps75
    go_wp2_with fail
    refine (count_err hcu h0 _).mono ?_
    rintro e w1 ⟨rfl, hk1, ho1⟩
    go_wp2_with fail
    refine (piece_err hk1 h0 _ _).mono ?_
    rintro e w2 ⟨rfl, rfl⟩
    go_wp2_with fail
    refine (skip_err hk1 h0 _).mono ?_
    rintro e w2 ⟨rfl, rfl⟩
    go_wp2
    go_ret
    exact ⟨rfl, hk1, ho1⟩
theorem text_no {w : World} {b : Nat} {s : ByteArray} {o : Nat} (C : Tk) (m M : Int) (hM : M = min m 1048576) (hC : C.er ≠ 0 → C.n = 0 ∧ C.sz = 0) (h1 : C.er ≠ 0)
    (hct : Calls Try.prog 95 #[.pointer (some ⟨b, 0, none⟩), .int .i64 M] w fun e w' => e = .returned (.tuple #[.int .i64 (C.n : Int), .int .i64 (C.sz : Int)]) ∧ Cur w' b s (o : Int) C.er ∧ Only b w w') :
    Calls Try.prog 75 #[.pointer (some ⟨b, 0, none⟩), .int .i64 m] w fun e w' => e = .returned (.string ⟨#[]⟩) ∧ Cur w' b s (o : Int) C.er ∧ Only b w w' := by
  obtain ⟨hn, hz⟩ := hC h1
  rw [hn, hz] at hct
  obtain ⟨er, her⟩ : ∃ er, C.er = er := ⟨_, rfl⟩
  rw [her] at hct h1 ⊢
  clear hC hn hz her
  by_cases hm : m ≤ 1048576
  · obtain rfl : M = m := by omega
    clear hM
    go_enter Try.func75, Try.ntmps75
    go_wp2_with fail
    refine hct.mono ?_
    rintro e w1 ⟨rfl, hk1, ho1⟩
    go_wp2_with fail
    refine (piece_err hk1 h1 _ _).mono ?_
    rintro e w2 ⟨rfl, rfl⟩
    go_wp2_with fail
    refine (skip_err hk1 h1 _).mono ?_
    rintro e w2 ⟨rfl, rfl⟩
    go_wp2
    go_ret
    exact ⟨rfl, hk1, ho1⟩
  · obtain rfl : M = 1048576 := by omega
    clear hM
    go_enter Try.func75, Try.ntmps75
    go_wp2_with fail
    refine hct.mono ?_
    rintro e w1 ⟨rfl, hk1, ho1⟩
    go_wp2_with fail
    refine (piece_err hk1 h1 _ _).mono ?_
    rintro e w2 ⟨rfl, rfl⟩
    go_wp2_with fail
    refine (skip_err hk1 h1 _).mono ?_
    rintro e w2 ⟨rfl, rfl⟩
    go_wp2
    go_ret
    exact ⟨rfl, hk1, ho1⟩
theorem text_short {w : World} {b : Nat} {s : ByteArray} {o n z : Nat} (m M : Int) (hM : M = min m 1048576) (hz : o + z ≤ s.size) (hs : s.size ≤ 4096) (hn : s.size < o + z + n) (hn2 : n ≤ 1048576)
    (hct : Calls Try.prog 95 #[.pointer (some ⟨b, 0, none⟩), .int .i64 M] w fun e w' => e = .returned (.tuple #[.int .i64 (n : Int), .int .i64 (z : Int)]) ∧ Cur w' b s (o : Int) 0 ∧ Only b w w') :
    Calls Try.prog 75 #[.pointer (some ⟨b, 0, none⟩), .int .i64 m] w fun e w' => e = .returned (.string ⟨#[]⟩) ∧ Cur w' b s (o : Int) 4 ∧ Only b w w' := by
  have hn' : Hid ((s.size : Int) - ((o + z : Nat) : Int) < (n : Int)) := by show _ < _; omega
  have hw : IntKind.i64.wrap ((z : Int) + (n : Int)) = (z : Int) + (n : Int) := by rw [IntKind.wrap_i64]; omega
  by_cases hm : m ≤ 1048576
  · obtain rfl : M = m := by omega
    clear hM
    go_enter Try.func75, Try.ntmps75
    go_wp2_with fail
    refine hct.mono ?_
    rintro e w1 ⟨rfl, hk1, ho1⟩
    go_wp2_with fail
    refine (piece_short hk1 hz hs hn'.out).mono ?_
    rintro e w2 ⟨rfl, hk2, ho2⟩
    go_wp2_with fail
    refine (skip_err hk2 (by decide) _).mono ?_
    rintro e w3 ⟨rfl, rfl⟩
    go_wp2
    go_ret
    exact ⟨rfl, hk2, ho1.trans ho2⟩
  · obtain rfl : M = 1048576 := by omega
    clear hM
    go_enter Try.func75, Try.ntmps75
    go_wp2_with fail
    refine hct.mono ?_
    rintro e w1 ⟨rfl, hk1, ho1⟩
    go_wp2_with fail
    refine (piece_short hk1 hz hs hn'.out).mono ?_
    rintro e w2 ⟨rfl, hk2, ho2⟩
    go_wp2_with fail
    refine (skip_err hk2 (by decide) _).mono ?_
    rintro e w3 ⟨rfl, rfl⟩
    go_wp2
    go_ret
    exact ⟨rfl, hk2, ho1.trans ho2⟩
theorem text_ok {w : World} {b : Nat} {s : ByteArray} {o n z : Nat} (m M : Int) (hM : M = min m 1048576) (hs : s.size ≤ 4096) (hn : o + z + n ≤ s.size)
    (hct : Calls Try.prog 95 #[.pointer (some ⟨b, 0, none⟩), .int .i64 M] w fun e w' => e = .returned (.tuple #[.int .i64 (n : Int), .int .i64 (z : Int)]) ∧ Cur w' b s (o : Int) 0 ∧ Only b w w') :
    Calls Try.prog 75 #[.pointer (some ⟨b, 0, none⟩), .int .i64 m] w fun e w' => e = .returned (.string (s.extract (o + z) (o + z + n))) ∧ Cur w' b s ((o + z + n : Nat) : Int) 0 ∧ Only b w w' := by
  have hw : IntKind.i64.wrap ((z : Int) + (n : Int)) = (z : Int) + (n : Int) := by rw [IntKind.wrap_i64]; omega
  have he : Hid (((o + z + n : Nat) : Int) = (o : Int) + ((z : Int) + (n : Int))) := by show _ = _; omega
  by_cases hm : m ≤ 1048576
  · obtain rfl : M = m := by omega
    clear hM
    go_enter Try.func75, Try.ntmps75
    go_wp2_with fail
    refine hct.mono ?_
    rintro e w1 ⟨rfl, hk1, ho1⟩
    go_wp2_with fail
    refine (piece_ok hk1 hs hn).mono ?_
    rintro e w2 ⟨rfl, hk2, ho2⟩
    go_wp2_with fail
    refine (skip_ok hk2 _ (by omega) (by omega) (by omega) (by omega)).mono ?_
    rintro e w3 ⟨rfl, hk3, ho3⟩
    go_wp2
    go_ret
    rw [he.out]
    exact ⟨rfl, hk3, (ho1.trans ho2).trans ho3⟩
  · obtain rfl : M = 1048576 := by omega
    clear hM
    go_enter Try.func75, Try.ntmps75
    go_wp2_with fail
    refine hct.mono ?_
    rintro e w1 ⟨rfl, hk1, ho1⟩
    go_wp2_with fail
    refine (piece_ok hk1 hs hn).mono ?_
    rintro e w2 ⟨rfl, hk2, ho2⟩
    go_wp2_with fail
    refine (skip_ok hk2 _ (by omega) (by omega) (by omega) (by omega)).mono ?_
    rintro e w3 ⟨rfl, hk3, ho3⟩
    go_wp2
    go_ret
    rw [he.out]
    exact ⟨rfl, hk3, (ho1.trans ho2).trans ho3⟩
theorem text_at {w : World} {b : Nat} {s : ByteArray} {o : Nat} {er : Int} (hcu : Cur w b s (o : Int) er) (ho : o ≤ s.size) (hs : s.size ≤ 4096) (m : Int) :
    Calls Try.prog 75 #[.pointer (some ⟨b, 0, none⟩), .int .i64 m] w fun e w' => e = .returned (.string (textA s o er m).v) ∧ Cur w' b s ((textA s o er m).o : Int) (textA s o er m).e ∧ Only b w w' := by
  by_cases h0 : er = 0
  · subst h0
    have hct := count_ok hcu ho hs (tkA s o) rfl (min m 1048576) (by omega)
    have hTe := cnt_err (m := min m 1048576) (tkA_err (s := s) (o := o))
    have hsz := (cnt_sz (T := tkA s o) (m := min m 1048576)).1
    have hmo := cnt_most (T := tkA s o) (m := min m 1048576)
    have hbd := (tkA_bound ho).2.1
    obtain ⟨C, hC⟩ : ∃ C, cnt (tkA s o) (min m 1048576) = C := ⟨_, rfl⟩
    rw [hC] at hct hTe hsz hmo
    by_cases h1 : C.er = 0
    · rw [h1] at hct
      have hle := (hmo h1).2
      by_cases h2 : s.size < o + C.sz + C.n
      · have hA : textA s o 0 m = ⟨⟨#[]⟩, o, 4⟩ := by unfold textA; rw [hC, if_pos rfl, if_pos h1, if_pos h2]
        rw [hA]
        exact text_short (o := o) m _ rfl (by omega) hs h2 (by omega) hct
      · have hA : textA s o 0 m = ⟨s.extract (o + C.sz) (o + C.sz + C.n), o + C.sz + C.n, 0⟩ := by unfold textA; rw [hC, if_pos rfl, if_pos h1, if_neg h2]
        rw [hA]
        exact text_ok (o := o) m _ rfl hs (by omega) hct
    · have hA : textA s o 0 m = ⟨⟨#[]⟩, o, C.er⟩ := by unfold textA; rw [hC, if_pos rfl, if_neg h1]
      rw [hA]
      exact text_no C m _ rfl hTe h1 hct
  · have hA : textA s o er m = ⟨⟨#[]⟩, o, er⟩ := if_neg h0
    rw [hA]
    exact text_err hcu h0 m
end Go.Proofs.Ytjmjlijmeahmfaa
