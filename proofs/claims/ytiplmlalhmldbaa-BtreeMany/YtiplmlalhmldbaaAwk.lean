/- Put and Drop of a tree without kids; the laws' awake; a nil tree. -/
import Derived.Test.YtiplmlalhmldbaaDpl
namespace Go.Proofs.Ytiplmlalhmldbaa
open Go.RowKit Go.Shelf
theorem put0 (xs : List Im) (hr : Ris xs) (hn : xs.length ≤ 50) (x : Im) (hr2 : Ris (insK xs x)) (hn2 : (insK xs x).length ≤ 7) (b n : Nat) (hn3 : n ≤ 1000000) (w : World) (T : Tr w b 0 xs n) :
    Calls Try.prog 14 #[.pointer (some ⟨b, 0, none⟩), .string x.1, .string x.2] w fun e w' => e = .returned (.bool (!(isK xs x.1))) ∧ Tr w' b 0 (insK xs x) (if isK xs x.1 then n else n + 1) ∧ Onl b w w' := by
  have h := put_of (h := 0) (h2 := 0) (h3 := 0) (t := xs) (t2 := insK xs x) (t3 := insK xs x) ⟨hr, hn⟩ x b n hn3 w T
    (fun W v hL => by
      obtain ⟨p, c, q, d, rfl, hS, hQ⟩ := hL
      exact with_leaf xs hr hn x p c q d W hS hQ)
    (fun W v hL => by
      obtain ⟨p, c, q, d, rfl, hS, hQ⟩ := hL
      refine (grown_small p _ c hn2 q 0 d W).mono ?_
      rintro e w' ⟨rfl, hb⟩
      exact ⟨_, rfl, ⟨p, c, q, d, rfl, hS.later hb, hQ.later hb⟩, hb⟩)
    ⟨hr2, Nat.le_trans hn2 (by omega)⟩ (Or.inl rfl)
  have e : (getT 0 xs x.1).2 = isK xs x.1 := by
    show (if isK xs x.1 = true then ((xs[posK xs x.1]!).2, true) else (⟨#[]⟩, false) : ByteArray × Bool).2 = _
    cases isK xs x.1 <;> rfl
  rw [e] at h
  exact h
theorem drop0 (xs : List Im) (hr : Ris xs) (hn : xs.length ≤ 7) (key : ByteArray) (hk : isK xs key = true) (hr2 : Ris (delK xs key)) (hn2 : (delK xs key).length ≤ 7) (b n : Nat) (hn0 : 0 < n) (hn3 : n ≤ 1000000) (w : World) (T : Tr w b 0 xs n) :
    Calls Try.prog 10 #[.pointer (some ⟨b, 0, none⟩), .string key] w fun e w' => e = .returned (.bool true) ∧ Tr w' b 0 (delK xs key) (n - 1) ∧ Onl b w w' := by
  have e : (getT 0 xs key).2 = isK xs key := by
    show (if isK xs key = true then ((xs[posK xs key]!).2, true) else (⟨#[]⟩, false) : ByteArray × Bool).2 = _
    cases isK xs key <;> rfl
  exact drop_of (h := 0) (h2 := 0) (h3 := 0) (t := xs) (t2 := delK xs key) (t3 := delK xs key) ⟨hr, Nat.le_trans hn (by omega)⟩ key (e.trans hk) b n hn0 hn3 w T
    (fun W v hL => by
      obtain ⟨p, c, q, d, rfl, hS, hQ⟩ := hL
      exact without_leaf xs hr (Nat.le_trans hn (by omega)) key hk p c q d W hS)
    (fun W v hL => by
      obtain ⟨p, c, q, d, rfl, hS, hQ⟩ := hL
      refine (shrunk_leaf p _ c q d W).mono ?_
      rintro e w' ⟨rfl, hb⟩
      exact ⟨_, rfl, ⟨p, c, q, d, rfl, hS.later hb, hQ.later hb⟩, hb⟩)
    ⟨hr2, Nat.le_trans hn2 (by omega)⟩ (Or.inl rfl)
def sA : ByteArray := ⟨#[97]⟩
def sB : ByteArray := ⟨#[98]⟩
def s1 : ByteArray := ⟨#[49]⟩
def s2 : ByteArray := ⟨#[50]⟩
def s3 : ByteArray := ⟨#[51]⟩
theorem lt8_ab : ltB sA sB = true := by decide +kernel
theorem ris0 : Ris [] := fun i j _ h => by simp at h
theorem ris1 (x : Im) : Ris [x] := fun i j h1 h2 => by simp at h2; omega
theorem ris2 (x y : Im) (h : ltB x.1 y.1 = true) : Ris [x, y] := fun i j h1 h2 => by
  obtain rfl : j = 1 := by simp at h2; omega
  obtain rfl : i = 0 := by omega
  exact h
theorem i1 : insK [] (sB, s1) = [(sB, s1)] := by kernel_rfl
theorem i2 : insK [(sB, s1)] (sA, s2) = [(sA, s2), (sB, s1)] := by kernel_rfl
theorem i3 : insK [(sA, s2), (sB, s1)] (sB, s3) = [(sA, s2), (sB, s3)] := by kernel_rfl
theorem i4 : delK [(sA, s2), (sB, s3)] sA = [(sB, s3)] := by kernel_rfl
theorem k1 : isK [] sB = false := by kernel_rfl
theorem k2 : isK [(sB, s1)] sA = false := by kernel_rfl
theorem k3 : isK [(sA, s2), (sB, s1)] sB = true := by kernel_rfl
theorem k4 : isK [(sA, s2), (sB, s3)] sA = true := by kernel_rfl
theorem k5 : getT 0 ([(sA, s2), (sB, s3)] : List Im) sB = (s3, true) := by kernel_rfl
set_option maxRecDepth 100000 in
set_option maxHeartbeats 4000000 in
theorem awake_any (w : World) : Calls Try.prog 17 #[] w fun e w' => e = .returned (.bool true) ∧ Below w.heap.size w w' := by
  have q0 := new_any w
  have q1 := fun W b T => put0 [] ris0 (by decide) (sB, s1) (by rw [i1]; exact ris1 _) (by rw [i1]; decide) b 0 (by decide) W T
  have q2 := fun W b T => put0 [(sB, s1)] (ris1 _) (by decide) (sA, s2) (by rw [i2]; exact ris2 _ _ lt8_ab) (by rw [i2]; decide) b 1 (by decide) W T
  have q3 := fun W b T => put0 [(sA, s2), (sB, s1)] (ris2 _ _ lt8_ab) (by decide) (sB, s3) (by rw [i3]; exact ris2 _ _ lt8_ab) (by rw [i3]; decide) b 2 (by decide) W T
  have q4 := fun W b (T : Tr W b 0 ([(sA, s2), (sB, s3)] : List Im) 2) => tget_any b 0 ([(sA, s2), (sB, s3)] : List Im) ⟨ris2 _ _ lt8_ab, by decide⟩ 2 sB W T
  have q5 := fun W b T => drop0 [(sA, s2), (sB, s3)] (ris2 _ _ lt8_ab) (by decide) sA k4 (by rw [i4]; exact ris1 _) (by rw [i4]; decide) b 2 (by decide) (by decide) W T
  have q6 := fun W b T => deep0 b [(sB, s3)] (ris1 _) (by decide) 1 W T
  have q7 := fun W b T => len_any b 0 ([(sA, s2), (sB, s3)] : List Im) 2 W T
  have q8 := fun W b T => len_any b 0 ([(sB, s3)] : List Im) 1 W T
  simp only [i1, k1, Bool.not_false, Bool.false_eq_true, if_false, Nat.reduceAdd] at q1
  simp only [i2, k2, Bool.not_false, Bool.false_eq_true, if_false, Nat.reduceAdd] at q2
  simp only [i3, k3, Bool.not_true, if_true] at q3
  simp only [k5] at q4
  have q4 : ∀ W b (T : Tr W b 0 ([(sA, s2), (sB, s3)] : List Im) 2), Calls Try.prog 12 #[.pointer (some ⟨b, 0, none⟩), .string sB] W fun e w' => e = .returned (.tuple #[.string ⟨#[51]⟩, .bool true]) ∧ Below W.heap.size W w' := q4
  simp only [i4, Nat.reduceSub] at q5
  go_enter Try.func17, Try.ntmps17
  go_wp2_with fail
  refine q0.mono ?_
  rintro e w1 ⟨rfl, T1, hb1⟩
  obtain ⟨b, hb⟩ : ∃ b, w.heap.size = b := ⟨_, rfl⟩
  rw [hb] at T1
  simp only [hb]
  have B1 := hb1
  go_wp2_with fail
  refine (q1 _ _ T1).mono ?_
  rintro e w2 ⟨rfl, T2, o2⟩
  clear q1 T1
  go_wp2_with fail
  refine (q2 _ _ T2).mono ?_
  rintro e w3 ⟨rfl, T3, o3⟩
  clear q2 T2
  go_wp2_with fail
  refine (q3 _ _ T3).mono ?_
  rintro e w4 ⟨rfl, T4, o4⟩
  clear q3 T3
  go_wp2_with fail
  refine (q4 _ _ T4).mono ?_
  rintro e w5 ⟨rfl, hb5⟩
  have T5 := T4.later hb5
  clear q4 T4
  go_wp2_with fail
  refine (q7 _ _ T5).mono ?_
  rintro e w6 ⟨rfl, hb6⟩
  have T6 := T5.later hb6
  clear q7 T5
  go_wp2_with fail
  refine (q5 _ _ T6).mono ?_
  rintro e w7 ⟨rfl, T7, o7⟩
  clear q5 T6
  go_wp2_with fail
  refine (q8 _ _ T7).mono ?_
  rintro e w8 ⟨rfl, hb8⟩
  have T8 := T7.later hb8
  clear q8 T7
  go_wp2_with fail
  refine (q6 _ _ T8).mono ?_
  rintro e w9 ⟨rfl, hb9⟩
  go_wp2
  go_ret
  refine ⟨rfl, ?_⟩
  have O := (((((((o2.trans o3).trans o4).trans (Onl.of hb5)).trans (Onl.of hb6)).trans o7).trans (Onl.of hb8)).trans (Onl.of hb9))
  exact hb1.trans (O.below (by omega) hb1.size)
end Go.Proofs.Ytiplmlalhmldbaa
