/- Which kinds may stand where (takes, field, errorIf, truth, number, sides). The kind of a sign between two sides (sides), and how many kids must be (formed). The kinds of expressions in a list (kinds), where each has its kind. The kind of an expression (Kind), out of its kids' kinds. -/
import Derived.Test.YtcniebkehekliaaGreatDoorWht
namespace Go.Proofs.YtcniebkehekliaaGreatDoor
open Go.RowKit Go.Shelf
attribute [local go_sem] Oper.semAt_some
def tkI (a k : Int) : Bool := k == a || k == 0 || k == -1
set_option maxRecDepth 100000 in
set_option maxHeartbeats 4000000 in
theorem takes_any (a k : Int) (w : World) : Calls Tryz.prog 47 #[.int .i64 a, .int .i64 k] w fun r w' => r = .returned (.bool (tkI a k)) ∧ w' = w := by
  unfold tkI
  cases h1 : (k == a) with
  | true =>
    go_enter Tryz.func47, Tryz.ntmps47
    go_wp2
    go_ret
    exact ⟨rfl, rfl⟩
  | false =>
    cases h2 : (k == 0) with
    | true =>
      go_enter Tryz.func47, Tryz.ntmps47
      go_wp2
      go_ret
      exact ⟨rfl, rfl⟩
    | false =>
      cases h3 : (k == -1) with
      | true =>
        go_enter Tryz.func47, Tryz.ntmps47
        go_wp2
        go_ret
        exact ⟨rfl, rfl⟩
      | false =>
        go_enter Tryz.func47, Tryz.ntmps47
        go_wp2
        go_ret
        exact ⟨rfl, rfl⟩
theorem field_any (b : Bool) (w : World) : Calls Tryz.prog 21 #[.bool b] w fun r w' => r = .returned (.tuple #[.int .i64 (if b then -1 else 0), .int .i64 (if b then 0 else 132)]) ∧ w' = w := by
  cases b with
  | true =>
    go_enter Tryz.func21, Tryz.ntmps21
    go_wp2
    go_ret2
    exact ⟨rfl, rfl⟩
  | false =>
    go_enter Tryz.func21, Tryz.ntmps21
    go_wp2
    go_ret2
    exact ⟨rfl, rfl⟩
theorem errorIf_any (b : Bool) (e : Int) (w : World) : Calls Tryz.prog 25 #[.bool b, .int .i64 e] w fun r w' => r = .returned (.int .i64 (if b then e else 0)) ∧ w' = w := by
  cases b with
  | true =>
    go_enter Tryz.func25, Tryz.ntmps25
    go_wp2
    go_ret
    exact ⟨rfl, rfl⟩
  | false =>
    go_enter Tryz.func25, Tryz.ntmps25
    go_wp2
    go_ret
    exact ⟨rfl, rfl⟩
/- Kinds in a list. -/
structure Kn (w : World) (p : Option Addr) (c : Nat) (l : List Int) : Prop where
  cap : l.length ≤ c ∧ c ≤ maxLen
  lies : 0 < l.length → ∃ g, p = some ⟨g, 0, none⟩ ∧ g < w.heap.size ∧ ∀ i x, l[i]? = some x → w.cell? ⟨g, i, none⟩ = some (.int .i64 x)
def truF (l : List Int) : Int × Int := if l.all (tkI 1) then (1, 0) else (0, 131)
def nmbF (l : List Int) : Int × Int := if l.all (tkI 2) then (if l.all (· == 2) then 2 else -1, 0) else (0, 131)
theorem all_more {p : Int → Bool} {l : List Int} {i : Nat} {x : Int} (h : l[i]? = some x) : (l.take (i + 1)).all p = ((l.take i).all p && p x) := by
  rw [List.take_add_one, h]
  simp
theorem not_all {p : Int → Bool} {l : List Int} {i : Nat} {x : Int} (h : l[i]? = some x) (hp : p x = false) : l.all p = false := by
  have hm : x ∈ l := List.mem_of_getElem? h
  cases ha : l.all p with
  | false => rfl
  | true =>
    have := List.all_eq_true.1 ha x hm
    rw [hp] at this
    cases this
set_option maxRecDepth 100000 in
set_option maxHeartbeats 4000000 in
theorem truth_any {w : World} {p : Option Addr} {c : Nat} {l : List Int} (h : Kn w p c l) (hl : l.length ≤ 1000) : Calls Tryz.prog 23 #[.slice p l.length c] w fun r w' => r = .returned (.tuple #[.int .i64 (truF l).1, .int .i64 (truF l).2]) ∧ w' = w := by
  have hcap := h.cap
  have hmx : maxLen = 9223372036854775807 := rfl
  have HS : Hid (Kn w p c l) := h
  obtain ⟨V, hV⟩ : ∃ V, truF l = V := ⟨_, rfl⟩
  rw [hV]
  have HV : Hid (truF l = V) := hV
  clear h hV
  go_enter Tryz.func23, Tryz.ntmps23
  go_wp2_with fail
  go_loopw [8] (fun c8 wr => ∃ i : Nat, i ≤ l.length ∧ c8 = .int .i64 (i : Int) ∧ Hid ((l.take i).all (tkI 1) = true) ∧ wr = w) (fun c8 _ => l.length - (intOf c8).toNat)
  case atStart => exact ⟨0, Nat.zero_le _, rfl, (show (l.take 0).all (tkI 1) = true from rfl), rfl⟩
  case round =>
    obtain ⟨i, hi, rfl, ha, hwr0⟩ := hrel
    have hwr1 := hwr0.symm
    clear hwr0
    subst hwr1
    by_cases hlt : i < l.length
    · have hlt' : (i : Int) < (l.length : Int) := by omega
      obtain ⟨x, hx⟩ : ∃ x, l[i]? = some x := ⟨l[i], List.getElem?_eq_getElem hlt⟩
      obtain ⟨g, rfl, hg, hc⟩ := HS.out.lies (by omega)
      have c1 := hc i x hx
      have kt := takes_any 1 x w
      cases ht : tkI 1 x with
      | true =>
        rw [ht] at kt
        have hm : Hid ((l.take (i + 1)).all (tkI 1) = true) := by
          have : (l.take (i + 1)).all (tkI 1) = true := by rw [all_more hx, ha.out, ht]; rfl
          exact this
        clear hx hc ht
        go_wp2_with fail
        refine kt.mono ?_
        rintro r w1 ⟨rfl, hw1⟩
        have hw1' := hw1.symm
        clear hw1
        subst hw1'
        clear kt
        go_wp2_with fail
        go_roundw
        case rel => exact ⟨i + 1, by omega, by go_num, hm, by first | rfl | trivial⟩
        case measure => simp [intOf]; omega
      | false =>
        rw [ht] at kt
        have hn := not_all hx ht
        have hV : V = (0, 131) := by
          rw [← HV.out]
          unfold truF
          rw [hn]
          rfl
        subst hV
        clear hx hc ht hn
        go_wp2_with fail
        refine kt.mono ?_
        rintro r w1 ⟨rfl, hw1⟩
        have hw1' := hw1.symm
        clear hw1
        subst hw1'
        clear kt
        go_wp2
        go_ret2
        exact ⟨rfl, rfl⟩
    · obtain rfl : i = l.length := by omega
      have hlt' : ¬ ((l.length : Int) < (l.length : Int)) := by omega
      have hV : V = (1, 0) := by
        rw [← HV.out]
        unfold truF
        have h := ha.out
        rw [List.take_of_length_le (Nat.le_refl _)] at h
        rw [h]
        rfl
      subst hV
      go_wp2
      go_ret2
      exact ⟨rfl, rfl⟩
set_option maxRecDepth 100000 in
set_option maxHeartbeats 4000000 in
theorem number_kinds {w : World} {p : Option Addr} {c : Nat} {l : List Int} (h : Kn w p c l) (hl : l.length ≤ 1000) : Calls Tryz.prog 22 #[.slice p l.length c] w fun r w' => r = .returned (.tuple #[.int .i64 (nmbF l).1, .int .i64 (nmbF l).2]) ∧ w' = w := by
  have hcap := h.cap
  have hmx : maxLen = 9223372036854775807 := rfl
  have HS : Hid (Kn w p c l) := h
  obtain ⟨V, hV⟩ : ∃ V, nmbF l = V := ⟨_, rfl⟩
  rw [hV]
  have HV : Hid (nmbF l = V) := hV
  clear h hV
  go_enter Tryz.func22, Tryz.ntmps22
  go_wp2_with fail
  go_loopw [4, 9] (fun c4 c8 wr => ∃ i : Nat, i ≤ l.length ∧ c8 = .int .i64 (i : Int) ∧ (∃ o : Int, c4 = .int .i64 o ∧ Hid ((l.take i).all (tkI 2) = true ∧ o = if (l.take i).all (· == 2) then 2 else -1)) ∧ wr = w) (fun _ c8 _ => l.length - (intOf c8).toNat)
  case atStart => exact ⟨0, Nat.zero_le _, rfl, ⟨2, rfl, (show (l.take 0).all (tkI 2) = true ∧ (2 : Int) = if (l.take 0).all (· == 2) then 2 else -1 from ⟨rfl, rfl⟩)⟩, rfl⟩
  case round =>
    obtain ⟨i, hi, rfl, ⟨o, rfl, ha⟩, hwr0⟩ := hrel
    have hwr1 := hwr0.symm
    clear hwr0
    subst hwr1
    by_cases hlt : i < l.length
    · have hlt' : (i : Int) < (l.length : Int) := by omega
      obtain ⟨x, hx⟩ : ∃ x, l[i]? = some x := ⟨l[i], List.getElem?_eq_getElem hlt⟩
      obtain ⟨g, rfl, hg, hc⟩ := HS.out.lies (by omega)
      have c1 := hc i x hx
      have kt := takes_any 2 x w
      cases ht : tkI 2 x with
      | true =>
        rw [ht] at kt
        have hm : (l.take (i + 1)).all (tkI 2) = true := by rw [all_more hx, ha.out.1, ht]; rfl
        by_cases h2 : x = 2
        · have hm2 : Hid ((l.take (i + 1)).all (tkI 2) = true ∧ o = if (l.take (i + 1)).all (· == 2) then 2 else -1) := by
            have : o = if (l.take (i + 1)).all (· == 2) then 2 else -1 := by
              rw [all_more hx, ha.out.2, h2]
              simp
            exact ⟨hm, this⟩
          subst h2
          clear hx hc ht hm
          go_wp2_with fail
          refine kt.mono ?_
          rintro r w1 ⟨rfl, hw1⟩
          have hw1' := hw1.symm
          clear hw1
          subst hw1'
          clear kt
          go_wp2_with fail
          go_roundw
          case rel => exact ⟨i + 1, by omega, by go_num, ⟨o, rfl, hm2⟩, by first | rfl | trivial⟩
          case measure => simp [intOf]; omega
        · have hm2 : Hid ((l.take (i + 1)).all (tkI 2) = true ∧ (-1 : Int) = if (l.take (i + 1)).all (· == 2) then 2 else -1) := by
            have e : (x == 2) = false := by simpa using h2
            have : (-1 : Int) = if (l.take (i + 1)).all (· == 2) then 2 else -1 := by
              rw [all_more hx, e, Bool.and_false]
              rfl
            exact ⟨hm, this⟩
          clear hx hc ht hm
          go_wp2_with fail
          refine kt.mono ?_
          rintro r w1 ⟨rfl, hw1⟩
          have hw1' := hw1.symm
          clear hw1
          subst hw1'
          clear kt
          go_wp2_with fail
          go_roundw
          case rel => exact ⟨i + 1, by omega, by go_num, ⟨-1, rfl, hm2⟩, by first | rfl | trivial⟩
          case measure => simp [intOf]; omega
      | false =>
        rw [ht] at kt
        have hn := not_all hx ht
        have hV : V = (0, 131) := by
          rw [← HV.out]
          unfold nmbF
          rw [hn]
          rfl
        subst hV
        clear hx hc ht hn
        go_wp2_with fail
        refine kt.mono ?_
        rintro r w1 ⟨rfl, hw1⟩
        have hw1' := hw1.symm
        clear hw1
        subst hw1'
        clear kt
        go_wp2
        go_ret2
        exact ⟨rfl, rfl⟩
    · obtain rfl : i = l.length := by omega
      have hlt' : ¬ ((l.length : Int) < (l.length : Int)) := by omega
      have hV : V = (o, 0) := by
        rw [← HV.out]
        unfold nmbF
        have h := ha.out
        rw [List.take_of_length_le (Nat.le_refl _)] at h
        rw [h.1, h.2]
        rfl
      subst hV
      go_wp2
      go_ret2
      exact ⟨rfl, rfl⟩
end Go.Proofs.YtcniebkehekliaaGreatDoor
namespace Go.Proofs.YtcniebkehekliaaGreatDoor
open Go.RowKit Go.Shelf
attribute [local go_sem] Oper.semAt_some
def sidK (s : List UInt8) (l : List Int) : Int × Int :=
  if s ∈ ([[79, 82], [65, 78, 68]] : List (List UInt8)) then truF l else if s ∈ ([[61], [60, 62], [60], [60, 61], [62], [62, 61]] : List (List UInt8)) then (1, 0) else if s ∈ ([[43], [45], [42]] : List (List UInt8)) then nmbF l else (0, 131)
set_option maxRecDepth 100000 in
set_option maxHeartbeats 4000000 in
theorem sides_t0 {w : World} {p : Option Addr} {c : Nat} {l : List Int} (h : Kn w p c l) (hl : l.length ≤ 1000) : Calls Tryz.prog 24 #[.string ⟨#[79, 82]⟩, .slice p l.length c] w fun r w' => r = .returned (.tuple #[.int .i64 (truF l).1, .int .i64 (truF l).2]) ∧ w' = w := by
  have k := truth_any h hl
  clear h hl
  go_enter Tryz.func24, Tryz.ntmps24
  go_wp2_with fail
  refine k.mono ?_
  rintro r w1 ⟨rfl, hw1⟩
  have hw1' := hw1.symm
  clear hw1
  subst hw1'
  go_wp2
  go_ret2
  exact ⟨rfl, rfl⟩
set_option maxRecDepth 100000 in
set_option maxHeartbeats 4000000 in
theorem sides_t1 {w : World} {p : Option Addr} {c : Nat} {l : List Int} (h : Kn w p c l) (hl : l.length ≤ 1000) : Calls Tryz.prog 24 #[.string ⟨#[65, 78, 68]⟩, .slice p l.length c] w fun r w' => r = .returned (.tuple #[.int .i64 (truF l).1, .int .i64 (truF l).2]) ∧ w' = w := by
  have k := truth_any h hl
  clear h hl
  go_enter Tryz.func24, Tryz.ntmps24
  go_wp2_with fail
  refine k.mono ?_
  rintro r w1 ⟨rfl, hw1⟩
  have hw1' := hw1.symm
  clear hw1
  subst hw1'
  go_wp2
  go_ret2
  exact ⟨rfl, rfl⟩
set_option maxRecDepth 100000 in
set_option maxHeartbeats 4000000 in
theorem sides_c0 {w : World} (v : Value) : Calls Tryz.prog 24 #[.string ⟨#[61]⟩, v] w fun r w' => r = .returned (.tuple #[.int .i64 1, .int .i64 0]) ∧ w' = w := by
  go_enter Tryz.func24, Tryz.ntmps24
  go_wp2
  go_ret2
  exact ⟨rfl, rfl⟩
set_option maxRecDepth 100000 in
set_option maxHeartbeats 4000000 in
theorem sides_c1 {w : World} (v : Value) : Calls Tryz.prog 24 #[.string ⟨#[60, 62]⟩, v] w fun r w' => r = .returned (.tuple #[.int .i64 1, .int .i64 0]) ∧ w' = w := by
  go_enter Tryz.func24, Tryz.ntmps24
  go_wp2
  go_ret2
  exact ⟨rfl, rfl⟩
set_option maxRecDepth 100000 in
set_option maxHeartbeats 4000000 in
theorem sides_c2 {w : World} (v : Value) : Calls Tryz.prog 24 #[.string ⟨#[60]⟩, v] w fun r w' => r = .returned (.tuple #[.int .i64 1, .int .i64 0]) ∧ w' = w := by
  go_enter Tryz.func24, Tryz.ntmps24
  go_wp2
  go_ret2
  exact ⟨rfl, rfl⟩
set_option maxRecDepth 100000 in
set_option maxHeartbeats 4000000 in
theorem sides_c3 {w : World} (v : Value) : Calls Tryz.prog 24 #[.string ⟨#[60, 61]⟩, v] w fun r w' => r = .returned (.tuple #[.int .i64 1, .int .i64 0]) ∧ w' = w := by
  go_enter Tryz.func24, Tryz.ntmps24
  go_wp2
  go_ret2
  exact ⟨rfl, rfl⟩
set_option maxRecDepth 100000 in
set_option maxHeartbeats 4000000 in
theorem sides_c4 {w : World} (v : Value) : Calls Tryz.prog 24 #[.string ⟨#[62]⟩, v] w fun r w' => r = .returned (.tuple #[.int .i64 1, .int .i64 0]) ∧ w' = w := by
  go_enter Tryz.func24, Tryz.ntmps24
  go_wp2
  go_ret2
  exact ⟨rfl, rfl⟩
set_option maxRecDepth 100000 in
set_option maxHeartbeats 4000000 in
theorem sides_c5 {w : World} (v : Value) : Calls Tryz.prog 24 #[.string ⟨#[62, 61]⟩, v] w fun r w' => r = .returned (.tuple #[.int .i64 1, .int .i64 0]) ∧ w' = w := by
  go_enter Tryz.func24, Tryz.ntmps24
  go_wp2
  go_ret2
  exact ⟨rfl, rfl⟩
set_option maxRecDepth 100000 in
set_option maxHeartbeats 4000000 in
theorem sides_n0 {w : World} {p : Option Addr} {c : Nat} {l : List Int} (h : Kn w p c l) (hl : l.length ≤ 1000) : Calls Tryz.prog 24 #[.string ⟨#[43]⟩, .slice p l.length c] w fun r w' => r = .returned (.tuple #[.int .i64 (nmbF l).1, .int .i64 (nmbF l).2]) ∧ w' = w := by
  have k := number_kinds h hl
  clear h hl
  go_enter Tryz.func24, Tryz.ntmps24
  go_wp2_with fail
  refine k.mono ?_
  rintro r w1 ⟨rfl, hw1⟩
  have hw1' := hw1.symm
  clear hw1
  subst hw1'
  go_wp2
  go_ret2
  exact ⟨rfl, rfl⟩
set_option maxRecDepth 100000 in
set_option maxHeartbeats 4000000 in
theorem sides_n1 {w : World} {p : Option Addr} {c : Nat} {l : List Int} (h : Kn w p c l) (hl : l.length ≤ 1000) : Calls Tryz.prog 24 #[.string ⟨#[45]⟩, .slice p l.length c] w fun r w' => r = .returned (.tuple #[.int .i64 (nmbF l).1, .int .i64 (nmbF l).2]) ∧ w' = w := by
  have k := number_kinds h hl
  clear h hl
  go_enter Tryz.func24, Tryz.ntmps24
  go_wp2_with fail
  refine k.mono ?_
  rintro r w1 ⟨rfl, hw1⟩
  have hw1' := hw1.symm
  clear hw1
  subst hw1'
  go_wp2
  go_ret2
  exact ⟨rfl, rfl⟩
set_option maxRecDepth 100000 in
set_option maxHeartbeats 4000000 in
theorem sides_n2 {w : World} {p : Option Addr} {c : Nat} {l : List Int} (h : Kn w p c l) (hl : l.length ≤ 1000) : Calls Tryz.prog 24 #[.string ⟨#[42]⟩, .slice p l.length c] w fun r w' => r = .returned (.tuple #[.int .i64 (nmbF l).1, .int .i64 (nmbF l).2]) ∧ w' = w := by
  have k := number_kinds h hl
  clear h hl
  go_enter Tryz.func24, Tryz.ntmps24
  go_wp2_with fail
  refine k.mono ?_
  rintro r w1 ⟨rfl, hw1⟩
  have hw1' := hw1.symm
  clear hw1
  subst hw1'
  go_wp2
  go_ret2
  exact ⟨rfl, rfl⟩
set_option maxRecDepth 100000 in
set_option maxHeartbeats 4000000 in
theorem sides_no {w : World} (s : ByteArray) (v : Value) (h0 : (s.toList == [79, 82]) = false) (h1 : (s.toList == [65, 78, 68]) = false) (h2 : (s.toList == [61]) = false) (h3 : (s.toList == [60, 62]) = false) (h4 : (s.toList == [60]) = false) (h5 : (s.toList == [60, 61]) = false) (h6 : (s.toList == [62]) = false) (h7 : (s.toList == [62, 61]) = false) (h8 : (s.toList == [43]) = false) (h9 : (s.toList == [45]) = false) (h10 : (s.toList == [42]) = false) : Calls Tryz.prog 24 #[.string s, v] w fun r w' => r = .returned (.tuple #[.int .i64 0, .int .i64 131]) ∧ w' = w := by
  go_enter Tryz.func24, Tryz.ntmps24
  go_wp2
  go_ret2
  exact ⟨rfl, rfl⟩
theorem sidesK_any {w : World} {p : Option Addr} {c : Nat} {l : List Int} (h : Kn w p c l) (hl : l.length ≤ 1000) (s : ByteArray) : Calls Tryz.prog 24 #[.string s, .slice p l.length c] w fun r w' => r = .returned (.tuple #[.int .i64 (sidK s.data.toList l).1, .int .i64 (sidK s.data.toList l).2]) ∧ w' = w := by
  unfold sidK
  split
  · next h1 =>
    simp only [List.mem_cons, List.not_mem_nil, or_false] at h1
    rcases h1 with e | e
    · rw [ba_of e]; exact sides_t0 h hl
    · rw [ba_of e]; exact sides_t1 h hl
  · next n1 =>
    split
    · next h1 =>
      simp only [List.mem_cons, List.not_mem_nil, or_false] at h1
      rcases h1 with e | e | e | e | e | e
      · rw [ba_of e]; exact sides_c0 _
      · rw [ba_of e]; exact sides_c1 _
      · rw [ba_of e]; exact sides_c2 _
      · rw [ba_of e]; exact sides_c3 _
      · rw [ba_of e]; exact sides_c4 _
      · rw [ba_of e]; exact sides_c5 _
    · next n2 =>
      split
      · next h1 =>
        simp only [List.mem_cons, List.not_mem_nil, or_false] at h1
        rcases h1 with e | e | e
        · rw [ba_of e]; exact sides_n0 h hl
        · rw [ba_of e]; exact sides_n1 h hl
        · rw [ba_of e]; exact sides_n2 h hl
      · next n3 =>
        simp only [List.mem_cons, List.not_mem_nil, or_false, not_or] at n1 n2 n3
        have hb : ∀ t : List UInt8, ¬ s.data.toList = t → (s.toList == t) = false := fun t ht => by rw [toList_data]; simpa using ht
        exact sides_no s _ (hb _ n1.1) (hb _ n1.2) (hb _ n2.1) (hb _ n2.2.1) (hb _ n2.2.2.1) (hb _ n2.2.2.2.1) (hb _ n2.2.2.2.2.1) (hb _ n2.2.2.2.2.2) (hb _ n3.1) (hb _ n3.2.1) (hb _ n3.2.2)
def frmB (k : Int) (n m : Nat) : Bool := if k = 1 ∨ k = 2 then n == 0 else if k = 3 ∨ k = 4 ∨ k = 5 then n == 1 else if k = 6 then n == 2 else if k = 8 then n == m else true
set_option maxRecDepth 100000 in
set_option maxHeartbeats 4000000 in
theorem formed_k1 (R : XR) (hk : R.k = 1) (w : World) : Calls Tryz.prog 20 #[rowX R] w fun r w' => r = .returned (.bool (R.n == 0)) ∧ Below w.heap.size w w' := by
  unfold rowX
  rw [hk]
  have hb : (((R.n : Nat) : Int) == 0) = (R.n == 0) := by
    rw [Bool.eq_iff_iff]
    simp only [beq_iff_eq]
    omega
  go_enter Tryz.func20, Tryz.ntmps20
  go_wp2
  go_ret
  exact ⟨by first | rfl | simp, (Below.refl _ w).alloc (Nat.le_refl _) _⟩
set_option maxRecDepth 100000 in
set_option maxHeartbeats 4000000 in
theorem formed_k2 (R : XR) (hk : R.k = 2) (w : World) : Calls Tryz.prog 20 #[rowX R] w fun r w' => r = .returned (.bool (R.n == 0)) ∧ Below w.heap.size w w' := by
  unfold rowX
  rw [hk]
  have hb : (((R.n : Nat) : Int) == 0) = (R.n == 0) := by
    rw [Bool.eq_iff_iff]
    simp only [beq_iff_eq]
    omega
  go_enter Tryz.func20, Tryz.ntmps20
  go_wp2
  go_ret
  exact ⟨by first | rfl | simp, (Below.refl _ w).alloc (Nat.le_refl _) _⟩
set_option maxRecDepth 100000 in
set_option maxHeartbeats 4000000 in
theorem formed_k3 (R : XR) (hk : R.k = 3) (w : World) : Calls Tryz.prog 20 #[rowX R] w fun r w' => r = .returned (.bool (R.n == 1)) ∧ Below w.heap.size w w' := by
  unfold rowX
  rw [hk]
  have hb : (((R.n : Nat) : Int) == 1) = (R.n == 1) := by
    rw [Bool.eq_iff_iff]
    simp only [beq_iff_eq]
    omega
  go_enter Tryz.func20, Tryz.ntmps20
  go_wp2
  go_ret
  exact ⟨by first | rfl | simp, (Below.refl _ w).alloc (Nat.le_refl _) _⟩
set_option maxRecDepth 100000 in
set_option maxHeartbeats 4000000 in
theorem formed_k4 (R : XR) (hk : R.k = 4) (w : World) : Calls Tryz.prog 20 #[rowX R] w fun r w' => r = .returned (.bool (R.n == 1)) ∧ Below w.heap.size w w' := by
  unfold rowX
  rw [hk]
  have hb : (((R.n : Nat) : Int) == 1) = (R.n == 1) := by
    rw [Bool.eq_iff_iff]
    simp only [beq_iff_eq]
    omega
  go_enter Tryz.func20, Tryz.ntmps20
  go_wp2
  go_ret
  exact ⟨by first | rfl | simp, (Below.refl _ w).alloc (Nat.le_refl _) _⟩
set_option maxRecDepth 100000 in
set_option maxHeartbeats 4000000 in
theorem formed_k5 (R : XR) (hk : R.k = 5) (w : World) : Calls Tryz.prog 20 #[rowX R] w fun r w' => r = .returned (.bool (R.n == 1)) ∧ Below w.heap.size w w' := by
  unfold rowX
  rw [hk]
  have hb : (((R.n : Nat) : Int) == 1) = (R.n == 1) := by
    rw [Bool.eq_iff_iff]
    simp only [beq_iff_eq]
    omega
  go_enter Tryz.func20, Tryz.ntmps20
  go_wp2
  go_ret
  exact ⟨by first | rfl | simp, (Below.refl _ w).alloc (Nat.le_refl _) _⟩
set_option maxRecDepth 100000 in
set_option maxHeartbeats 4000000 in
theorem formed_k6 (R : XR) (hk : R.k = 6) (w : World) : Calls Tryz.prog 20 #[rowX R] w fun r w' => r = .returned (.bool (R.n == 2)) ∧ Below w.heap.size w w' := by
  unfold rowX
  rw [hk]
  have hb : (((R.n : Nat) : Int) == 2) = (R.n == 2) := by
    rw [Bool.eq_iff_iff]
    simp only [beq_iff_eq]
    omega
  go_enter Tryz.func20, Tryz.ntmps20
  go_wp2
  go_ret
  exact ⟨by first | rfl | simp, (Below.refl _ w).alloc (Nat.le_refl _) _⟩
set_option maxRecDepth 100000 in
set_option maxHeartbeats 4000000 in
theorem formed_k8 (R : XR) (hk : R.k = 8) (w : World) : Calls Tryz.prog 20 #[rowX R] w fun r w' => r = .returned (.bool (R.n == R.m)) ∧ Below w.heap.size w w' := by
  unfold rowX
  rw [hk]
  have hb : (((R.n : Nat) : Int) == ((R.m : Nat) : Int)) = (R.n == R.m) := by
    rw [Bool.eq_iff_iff]
    simp only [beq_iff_eq]
    omega
  go_enter Tryz.func20, Tryz.ntmps20
  go_wp2
  go_ret
  exact ⟨by first | rfl | simp, (Below.refl _ w).alloc (Nat.le_refl _) _⟩
set_option maxRecDepth 100000 in
set_option maxHeartbeats 4000000 in
theorem formed_no (R : XR) (h1 : ¬ R.k = 1) (h2 : ¬ R.k = 2) (h3 : ¬ R.k = 3) (h4 : ¬ R.k = 4) (h5 : ¬ R.k = 5) (h6 : ¬ R.k = 6) (h8 : ¬ R.k = 8) (w : World) : Calls Tryz.prog 20 #[rowX R] w fun r w' => r = .returned (.bool (true)) ∧ Below w.heap.size w w' := by
  unfold rowX
  go_enter Tryz.func20, Tryz.ntmps20
  go_wp2
  go_ret
  exact ⟨by first | rfl | simp, (Below.refl _ w).alloc (Nat.le_refl _) _⟩
theorem formed_any (R : XR) (w : World) : Calls Tryz.prog 20 #[rowX R] w fun r w' => r = .returned (.bool (frmB R.k R.n R.m)) ∧ Below w.heap.size w w' := by
  unfold frmB
  split
  · next h => rcases h with h | h
              · exact formed_k1 R h w
              · exact formed_k2 R h w
  · next n1 =>
    split
    · next h => rcases h with h | h | h
                · exact formed_k3 R h w
                · exact formed_k4 R h w
                · exact formed_k5 R h w
    · next n2 =>
      split
      · next h => exact formed_k6 R h w
      · next n6 =>
        split
        · next h => exact formed_k8 R h w
        · next n8 =>
          simp only [not_or] at n1 n2
          exact formed_no R n1.1 n1.2 n2.1 n2.2.1 n2.2.2 n6 n8 w
end Go.Proofs.YtcniebkehekliaaGreatDoor
namespace Go.Proofs.YtcniebkehekliaaGreatDoor
open Go.RowKit Go.Shelf
attribute [local go_sem] Oper.semAt_some
/- The kinds of the kids from one on, or the first error. -/
def kdsF (F : Et → Int × Int) (f : Nat → Et) : Nat → Nat → List Int → List Int × Int
  | _, 0, l => (l, 0)
  | i, r + 1, l => if (F (f i)).2 = 0 then kdsF F f (i + 1) r (l ++ [(F (f i)).1]) else ([], (F (f i)).2)
theorem info3 : (Tryz.prog.info? 3).map (fun i => (i.zero, i.size, i.bytes)) = some (some (.int .i64 0), 1, 8) := by kernel_rfl
def GivesK (w : World) (X : List Int × Int) (r : Ending) (w' : World) : Prop := ∃ p c, r = .returned (.tuple #[.slice p X.1.length c, .int .i64 X.2]) ∧ Kn w' p c X.1 ∧ Below w.heap.size w w'
theorem Kn.nil (w : World) : Kn w none 0 [] := ⟨⟨Nat.le_refl _, Nat.zero_le _⟩, fun h => absurd h (Nat.lt_irrefl _)⟩
def intsC (l : List Int) : List Value := l.map fun k => .int .i64 k
theorem Kn.own {w : World} {base : Nat} {v : Value} {l : List Int} (h : w.ownsRow base 3 1 v l.length (intsC l)) : ∃ p c, v = .slice p l.length c ∧ Kn w p c l := by
  rcases h.2 with ⟨hv, hn⟩ | ⟨g, cap, cur, hv, hg, hr, h1, h2, h3, h4⟩
  · refine ⟨none, 0, by rw [hv, hn], ⟨by omega, Nat.zero_le _⟩, fun h0 => by omega⟩
  · refine ⟨_, _, hv, ⟨h1, h2⟩, fun _ => ⟨g, rfl, lt_of_row hr, fun i x hx => ?_⟩⟩
    have hi := (List.getElem?_eq_some_iff.1 hx).1
    rw [cell_of_row w g i cur _ _ hr]
    have e : (intsC l)[i]? = some (.int .i64 x) := by unfold intsC; rw [List.getElem?_map, hx]; rfl
    rw [← h4, List.getElem?_take, if_pos (by omega)] at e
    simpa using e
set_option maxRecDepth 100000 in
set_option maxHeartbeats 8000000 in
theorem kinds_any {w : World} {S : Nat → Prop} {p : Option Addr} {n c d : Nat} {K : Nat → Nat → Value} {f : Nat → Et} (hK : Kds w S p n c K) (hd : ∀ i, i < n → LiesE w S d (f i) (row10 (K i))) (hn : n ≤ 1000) (b : Bool) (F : Et → Int × Int)
    (kb : ∀ W i v, i < n → LiesE W S d (f i) v → Calls Tryz.prog 8 #[v, .bool b] W fun r w' => r = .returned (.tuple #[.int .i64 (F (f i)).1, .int .i64 (F (f i)).2]) ∧ Below W.heap.size W w') :
    Calls Tryz.prog 18 #[.slice p n c, .bool b] w (GivesK w (kdsF F f 0 n [])) := by
  have hcap := hK.cap
  have hmx : maxLen = 9223372036854775807 := rfl
  obtain ⟨V, hV⟩ : ∃ V, kdsF F f 0 n [] = V := ⟨_, rfl⟩
  rw [hV]
  have HV : Hid (kdsF F f 0 n [] = V ∧ Kds w S p n c K ∧ (∀ i, i < n → LiesE w S d (f i) (row10 (K i)))) := ⟨hV, hK, hd⟩
  obtain ⟨i0, hi0, hz0, hz1, hz2⟩ := info_parts info3
  clear hV hK hd
  go_enter Tryz.func18, Tryz.ntmps18
  go_wp2_with fail
  go_loopw [6, 13] (fun c6 c13 wr => ∃ (i : Nat) (l : List Int), i ≤ n ∧ c13 = .int .i64 (i : Int) ∧ Hid (l.length = i ∧ kdsF F f i (n - i) l = V ∧ wr.ownsRow w.heap.size 3 1 c6 l.length (intsC l) ∧ Below w.heap.size w wr)) (fun _ c13 _ => n - (intOf c13).toNat)
  case atStart =>
    refine ⟨0, [], Nat.zero_le _, rfl, ?_⟩
    have hh : ([] : List Int).length = 0 ∧ kdsF F f 0 (n - 0) [] = V ∧ w.ownsRow w.heap.size 3 1 (.slice none 0 0) ([] : List Int).length (intsC []) ∧ Below w.heap.size w w := ⟨rfl, HV.out.1, World.ownsRow_nil _ _ _ _, Below.refl _ _⟩
    exact hh
  case round =>
    obtain ⟨i, l, hi, rfl, hh⟩ := hrel
    obtain ⟨hl, hlo, hown, hB⟩ := hh.out
    by_cases hlt : i < n
    · have hlt' : (i : Int) < (n : Int) := by omega
      obtain ⟨g, o, rfl, hSg, hg, hcl⟩ := HV.out.2.1.lies (by omega)
      have hLi := HV.out.2.2 i hlt
      obtain ⟨R, hR⟩ := hLi.row
      have hRl : (arrX R).toList = [K i 0, K i 1, K i 2, K i 3, K i 4, K i 5, K i 6, K i 7, K i 8, K i 9] := by
        have hR' : Value.agg #[K i 0, K i 1, K i 2, K i 3, K i 4, K i 5, K i 6, K i 7, K i 8, K i 9] = .agg (arrX R) := hR
        injection hR' with e
        have := congrArg Array.toList e
        simpa using this.symm
      have hrg : wr.rangeAt g (o + i * 10) (arrX R).toList := fun j u hu => by
        rw [hRl] at hu
        have hj : j < 10 := by
          have := (List.getElem?_eq_some_iff.1 hu).1
          simpa using this
        have h1 := hcl i hlt j hj
        rw [← cell_later hB hg] at h1
        rw [h1]
        rcases (by omega : j = 0 ∨ j = 1 ∨ j = 2 ∨ j = 3 ∨ j = 4 ∨ j = 5 ∨ j = 6 ∨ j = 7 ∨ j = 8 ∨ j = 9) with rfl | rfl | rfl | rfl | rfl | rfl | rfl | rfl | rfl | rfl <;> simpa using hu
      obtain ⟨A, hA⟩ : ∃ A, arrX R = A := ⟨_, rfl⟩
      have h10 : A.size = 10 := by rw [← hA]; rfl
      have hon : A.all (·.oneCell') = true := by rw [← hA]; simp [arrX, Value.oneCell']
      have hLA : LiesE w S d (f i) (.agg A) := by rw [← hA]; rw [hR] at hLi; exact hLi
      rw [hA] at hrg
      obtain ⟨w2, hw2⟩ : ∃ w2, put (wr.alloc (.cells #[.int .i64 0, .string ⟨#[]⟩, .int .i64 0, .bool false, .int .i64 0, .string ⟨#[]⟩, .slice none 0 0, .slice none 0 0, .slice none 0 0, .slice none 0 0] 28)) wr.heap.size A = w2 := ⟨_, rfl⟩
      have ra : (wr.alloc (.cells #[.int .i64 0, .string ⟨#[]⟩, .int .i64 0, .bool false, .int .i64 0, .string ⟨#[]⟩, .slice none 0 0, .slice none 0 0, .slice none 0 0, .slice none 0 0] 28)).heap[wr.heap.size]? = some (.cells zero10 28 (0, 0)) := heap_alloc_new _ _
      have hb2 : Below wr.heap.size wr w2 := by rw [← hw2]; exact put_below ((Below.refl _ wr).alloc (Nat.le_refl _) _) _ (Nat.le_refl _) _
      have r2 : w2.heap[wr.heap.size]? = some (.cells A 28 (0, 0)) := by rw [← hw2]; exact put_row _ ra h10
      have hB2 := hB.trans (hb2.mono hB.size)
      have k2 := kb w2 i (.agg A) hlt (hLA.since (Since.below hB2))
      obtain ⟨r, hr⟩ : ∃ r, n - i = r + 1 := ⟨n - i - 1, by omega⟩
      rw [hr] at hlo
      unfold kdsF at hlo
      obtain ⟨X, hX⟩ : ∃ X, F (f i) = X := ⟨_, rfl⟩
      rw [hX] at k2 hlo
      have H2 : Hid (wr.rangeAt g (o + i * 10) A.toList ∧ (wr.alloc (.cells #[.int .i64 0, .string ⟨#[]⟩, .int .i64 0, .bool false, .int .i64 0, .string ⟨#[]⟩, .slice none 0 0, .slice none 0 0, .slice none 0 0, .slice none 0 0] 28)).heap[wr.heap.size]? = some (.cells zero10 28 (0, 0)) ∧ A.size = 10 ∧ A.all (·.oneCell') = true ∧ w2.heap[wr.heap.size]? = some (.cells A 28 (0, 0)) ∧ Below w.heap.size w w2 ∧ w2.ownsRow w.heap.size 3 1 u6 l.length (intsC l) ∧ l.length = i) := ⟨hrg, ra, h10, hon, r2, hB2, own_laterN hown hb2, hl⟩
      have hi28 : (Tryz.prog.info? 28).map (·.size) = some A.toList.length := by rw [Array.length_toList]; exact i28 h10
      have HI : Hid ((Tryz.prog.info? 28).map (·.size) = some A.toList.length) := hi28
      clear hh hown hB hrg ra h10 hon r2 hB2 hb2 hLA hLi hR hRl hA hcl hX hl hi28
      by_cases hx2 : X.2 = 0
      · rw [if_pos hx2] at hlo
        have HLO : Hid (kdsF F f (i + 1) r (l ++ [X.1]) = V) := hlo
        rw [hx2] at k2
        clear hlo hx2
        go_wp2_with (first
          | (refine wpList_load_mid rfl 28 (.tmp 15) rfl g (o + i * 10) rfl A.toList _ H2.out.1 Tryz.underlying28 rfl HI.out ?_; simp only [Act.put, List.setIfInBounds_toArray, List.set_cons_zero, List.set_cons_succ, Array.toArray_toList])
          | (refine wpList_put rfl 28 (.tmp 8) (.tmp 16) rfl rfl rfl rfl H2.out.2.1 H2.out.2.2.1 (i28 H2.out.2.2.1) H2.out.2.2.2.1 ?_; rw [hw2])
          | (refine wpList_get rfl 28 (.tmp 8) rfl rfl H2.out.2.2.2.2.1 Tryz.underlying28 rfl (i28 H2.out.2.2.1) ?_; simp only [Act.put, List.setIfInBounds_toArray, List.set_cons_zero, List.set_cons_succ])
          | fail)
        refine k2.mono ?_
        rintro q w3 ⟨rfl, hb3⟩
        have o3 := own_laterN H2.out.2.2.2.2.2.2.1 hb3
        have hB3 := H2.out.2.2.2.2.2.1.trans (hb3.mono H2.out.2.2.2.2.2.1.size)
        have hs3 := hB3.size
        have hll := H2.out.2.2.2.2.2.2.2
        have HB3 : Hid (Below w.heap.size w w3) := hB3
        clear k2 hb3 hw2 hB3
        go_wp2_with (at_builtin; refine wpList_append_own_at _ rfl _ _ 60 rfl w.heap.size 3 i0 (.int .i64 0) 1 8 Tryz.underlying60 hi0 hz0 hz1 hz2 rfl (by decide) _ _ _ rfl (o3.alloc _) ⟨w3.heap.size, 0, none⟩ 1 1 [.int .i64 X.1] rfl rfl ?c1 ?c2 ?c3 ?c4 ?c5 ?_)
        case c1 => exact World.news_of_block (heap_alloc_new w3 _)
        case c2 => exact fun u hu => by rw [List.mem_singleton] at hu; rw [hu]; rfl
        case c3 => unfold maxLen; omega
        case c4 => omega
        case c5 => simp; omega
        intro v' w5 hown5 hgr5 _ hat5
        have hB5 : Below w.heap.size w w5 := (HB3.out.alloc hs3 _).grown hgr5 (by simp; omega) (fun k hk => (o3.lt k hk).1)
        have HB5 : Hid (w5.ownsRow w.heap.size 3 1 v' (l ++ [X.1]).length (intsC (l ++ [X.1])) ∧ Below w.heap.size w w5) := by
          refine ⟨?_, hB5⟩
          have e1 : (l ++ [X.1]).length = l.length + 1 := by simp
          have e2 : intsC (l ++ [X.1]) = intsC l ++ [.int .i64 X.1] := by simp [intsC]
          rw [e1, e2, hll]
          exact hown5
        clear o3 hown5 hgr5 hat5 hB5
        go_wp2_with fail
        go_roundw
        case rel =>
          refine ⟨i + 1, l ++ [X.1], by omega, by go_num, ?_⟩
          have er : n - (i + 1) = r := by omega
          have hh : (l ++ [X.1]).length = i + 1 ∧ kdsF F f (i + 1) (n - (i + 1)) (l ++ [X.1]) = V ∧ w5.ownsRow w.heap.size 3 1 v' (l ++ [X.1]).length (intsC (l ++ [X.1])) ∧ Below w.heap.size w w5 := ⟨by simp; omega, by rw [er]; exact HLO.out, HB5.out.1, HB5.out.2⟩
          exact hh
        case measure => simp [intOf]; omega
      · rw [if_neg hx2] at hlo
        subst hlo
        go_wp2_with (first
          | (refine wpList_load_mid rfl 28 (.tmp 15) rfl g (o + i * 10) rfl A.toList _ H2.out.1 Tryz.underlying28 rfl HI.out ?_; simp only [Act.put, List.setIfInBounds_toArray, List.set_cons_zero, List.set_cons_succ, Array.toArray_toList])
          | (refine wpList_put rfl 28 (.tmp 8) (.tmp 16) rfl rfl rfl rfl H2.out.2.1 H2.out.2.2.1 (i28 H2.out.2.2.1) H2.out.2.2.2.1 ?_; rw [hw2])
          | (refine wpList_get rfl 28 (.tmp 8) rfl rfl H2.out.2.2.2.2.1 Tryz.underlying28 rfl (i28 H2.out.2.2.1) ?_; simp only [Act.put, List.setIfInBounds_toArray, List.set_cons_zero, List.set_cons_succ])
          | fail)
        refine k2.mono ?_
        rintro q w3 ⟨rfl, hb3⟩
        have HB3 : Hid (Below w.heap.size w w3) := H2.out.2.2.2.2.2.1.trans (hb3.mono H2.out.2.2.2.2.2.1.size)
        clear k2 hb3 hw2
        go_wp2
        go_ret2
        exact ⟨none, 0, rfl, Kn.nil _, HB3.out⟩
    · obtain rfl : i = n := by omega
      have hlt' : ¬ ((i : Int) < (i : Int)) := by omega
      have hV : V = (l, 0) := by
        rw [← hlo, Nat.sub_self]
        rfl
      subst hV
      subst hl
      obtain ⟨q, k, rfl, hKn⟩ := Kn.own hown
      have HK : Hid (Kn wr q k l ∧ Below w.heap.size w wr) := ⟨hKn, hB⟩
      clear hh hown hB hKn
      go_wp2
      go_ret2
      exact ⟨q, k, rfl, HK.out.1, HK.out.2⟩
end Go.Proofs.YtcniebkehekliaaGreatDoor
namespace Go.Proofs.YtcniebkehekliaaGreatDoor
open Go.RowKit Go.Shelf
attribute [local go_sem] Oper.semAt_some
theorem kdsF_len (F : Et → Int × Int) (f : Nat → Et) : ∀ (r i : Nat) (l : List Int), (kdsF F f i r l).1.length ≤ l.length + r
  | 0, _, _ => Nat.le_refl _
  | r + 1, i, l => by
    unfold kdsF
    split
    · have := kdsF_len F f r (i + 1) (l ++ [(F (f i)).1])
      simp only [List.length_append, List.length_cons, List.length_nil] at this
      omega
    · simp
theorem Kn.later {w w' : World} {p : Option Addr} {c : Nat} {l : List Int} (h : Kn w p c l) (hb : Below w.heap.size w w') : Kn w' p c l := by
  refine ⟨h.cap, fun h0 => ?_⟩
  obtain ⟨g, h1, h2, h3⟩ := h.lies h0
  exact ⟨g, h1, Nat.lt_of_lt_of_le h2 hb.size, fun i x hx => (cell_later hb h2).trans (h3 i x hx)⟩
/- What an expression of a kind comes to, its kids' kinds known. -/
def ownK (k : Int) (s : List UInt8) (vk : Int) (b : Bool) (l : List Int) : Int × Int :=
  if k = 1 then (vk, 0) else if k = 2 then (if b then -1 else 0, if b then 0 else 132) else if k = 3 then nmbF l else if k = 4 then truF l else if k = 5 then (1, 0) else if k = 6 then sidK s l else if k = 7 then (5, 0) else if k = 8 then (6, 0) else (0, 131)
def kndK (k : Int) (s : List UInt8) (vk : Int) (n m : Nat) (tw b : Bool) (K : List Int × Int) : Int × Int :=
  if K.2 = 0 then (if k = 8 ∧ tw = true then (0, 133) else if frmB k n m = true then ownK k s vk b K.1 else (0, 131)) else (0, K.2)
end Go.Proofs.YtcniebkehekliaaGreatDoor
