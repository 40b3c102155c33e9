/- Words that are signs and numbers (signWord, numWord). -/
import Derived.Test.YthgagldpjledgaaGreatDoorWg
namespace Go.Proofs.YthgagldpjledgaaGreatDoor
open Go.RowKit Go.Shelf
theorem index_sign (c : UInt8) : decide (0 ≤ Lib.indexByte [61, 60, 62, 43, 45, 42, 40, 41, 123, 125, 91, 93, 44, 58, 46] c) = signsL.contains c := by
  have : ∀ n : Fin 256, decide (0 ≤ Lib.indexByte [61, 60, 62, 43, 45, 42, 40, 41, 123, 125, 91, 93, 44, 58, 46] (UInt8.ofNat n.val)) = signsL.contains (UInt8.ofNat n.val) := by decide +kernel
  have h := this ⟨c.toNat, UInt8.toNat_lt c⟩
  simpa using h
theorem index_one (c : UInt8) (x : Int) (hx : x = (c.toNat : Int)) (w : World) : Calls Tryz.prog 107 #[.string ⟨#[61, 60, 62, 43, 45, 42, 40, 41, 123, 125, 91, 93, 44, 58, 46]⟩, .int .u8 x] w fun e w' => (∃ v : Int, e = .returned (.int .i64 v) ∧ decide (0 ≤ v) = signsL.contains c) ∧ w' = w := by
  refine (Tryz.strings_IndexByte _ x w).mono ?_
  rintro e w' ⟨rfl, rfl⟩
  refine ⟨⟨_, rfl, ?_⟩, rfl⟩
  rw [← index_sign c, hx]
  simp
set_option maxRecDepth 20000 in
set_option maxHeartbeats 4000000 in
theorem signSize_any (s : ByteArray) (h0 : 0 < s.size) (w : World) :
    Calls Tryz.prog 88 #[.string s] w fun e w' => e = .returned (.int .i64 (signN s.data.toList : Int)) ∧ w' = w := by
  obtain ⟨c, hc, he⟩ := at_chr h0
  have hce : ((s[0].toNat : Nat) : Int) = (c.toNat : Int) := by rw [chr_eq s 0 h0, he]
  have hi := index_one c _ hce
  have hd := drop_at hc
  rw [List.drop_zero] at hd
  have p1 := Tryz.strings_HasPrefix s ⟨#[60, 62]⟩
  have p2 := Tryz.strings_HasPrefix s ⟨#[60, 61]⟩
  have p3 := Tryz.strings_HasPrefix s ⟨#[62, 61]⟩
  have hV : signN s.data.toList = if (Lib.hasPrefix s.data.toList [60, 62] || Lib.hasPrefix s.data.toList [60, 61] || Lib.hasPrefix s.data.toList [62, 61]) = true then 2 else if signsL.contains c = true then 1 else 0 := by
    rw [hd]
    rfl
  simp only at p1 p2 p3
  obtain ⟨V, hVV⟩ : ∃ V, signN s.data.toList = V := ⟨_, rfl⟩
  obtain ⟨A, hA⟩ : ∃ A, Lib.hasPrefix s.data.toList [60, 62] = A := ⟨_, rfl⟩
  obtain ⟨B, hB⟩ : ∃ B, Lib.hasPrefix s.data.toList [60, 61] = B := ⟨_, rfl⟩
  obtain ⟨D, hD⟩ : ∃ D, Lib.hasPrefix s.data.toList [62, 61] = D := ⟨_, rfl⟩
  obtain ⟨S, hS⟩ : ∃ S, signsL.contains c = S := ⟨_, rfl⟩
  rw [hVV] at hV ⊢
  rw [hA, hB, hD, hS] at hV
  rw [hS] at hi
  rw [hA] at p1
  rw [hB] at p2
  rw [hD] at p3
  have HV : Hid (V = _) := hV
  have h0' : 0 < (s.size : Int) := by omega
  clear hVV hA hB hD hS hV hc he hce hd
  go_enter Tryz.func88, Tryz.ntmps88
  go_wp2_with fail
  refine (p1 _).mono ?_
  rintro e w2 ⟨rfl, rfl⟩
  cases A with
  | true =>
    go_wp2
    go_ret
    rw [HV.out]
    exact ⟨rfl, rfl⟩
  | false =>
    go_wp2_with fail
    refine (p2 _).mono ?_
    rintro e w2 ⟨rfl, rfl⟩
    cases B with
    | true =>
      go_wp2
      go_ret
      rw [HV.out]
      exact ⟨rfl, rfl⟩
    | false =>
      go_wp2_with fail
      refine (p3 _).mono ?_
      rintro e w2 ⟨rfl, rfl⟩
      cases D with
      | true =>
        go_wp2
        go_ret
        rw [HV.out]
        exact ⟨rfl, rfl⟩
      | false =>
        go_wp2_with fail
        refine (hi _).mono ?_
        rintro e w2 ⟨⟨v, rfl, hv⟩, rfl⟩
        cases S with
        | true =>
          have hv' : 0 ≤ v := by simpa using hv
          go_wp2
          go_ret
          rw [HV.out]
          exact ⟨rfl, rfl⟩
        | false =>
          have hv' : ¬ 0 ≤ v := by simpa using hv
          go_wp2
          go_ret
          rw [HV.out]
          exact ⟨rfl, rfl⟩
def signA (l : List UInt8) : Fo := if signN l = 0 then none else some (6, l.take (signN l), signN l)
set_option maxRecDepth 20000 in
set_option maxHeartbeats 4000000 in
theorem signWord_any (s : ByteArray) (h0 : 0 < s.size) (w : World) :
    Calls Tryz.prog 59 #[.string s] w fun e w' => e = .returned (wV (signA s.data.toList)) ∧ Below w.heap.size w w' := by
  have hr := signSize_any s h0
  have hl := Lib.size_eq s
  have hle := signN_le s.data.toList
  have hb : s.extract 0 (signN s.data.toList) = ⟨(s.data.toList.take (signN s.data.toList)).toArray⟩ := ba_eq (ext_take _ _)
  have hV : wV (signA s.data.toList) = if signN s.data.toList = 0 then wV none else .tuple #[.agg #[.int .i64 6, .string (s.extract 0 (signN s.data.toList)), .int .i64 0], .int .i64 (signN s.data.toList : Int)] := by
    unfold signA
    rw [hb]
    split <;> rfl
  obtain ⟨V, hVV⟩ : ∃ V, wV (signA s.data.toList) = V := ⟨_, rfl⟩
  rw [hVV] at hV ⊢
  obtain ⟨r, hrr⟩ : ∃ r, signN s.data.toList = r := ⟨_, rfl⟩
  rw [hrr] at hr hle hV
  have hrs : (r : Int) ≤ (s.size : Int) := by omega
  clear hrr hle hl hb hVV
  go_enter Tryz.func59, Tryz.ntmps59
  go_wp2_with fail
  refine (hr _).mono ?_
  rintro e w2 ⟨rfl, rfl⟩
  obtain ⟨w1, hw1⟩ : ∃ w1, w1 = w.alloc (.cells #[.int .i64 0, .string ⟨#[]⟩, .int .i64 0] 46) := ⟨_, rfl⟩
  have hz : Z3 w1 w.heap.size 46 := by rw [hw1]; exact Z3.new w 46
  have hB : Below w.heap.size w w1 := by rw [hw1]; exact (Below.refl _ w).alloc (Nat.le_refl _) _
  have f0 := frozen_of_row w1 _ 0 _ _ hz
  have f1 := frozen_of_row w1 _ 1 _ _ hz
  have f2 := frozen_of_row w1 _ 2 _ _ hz
  have c0 := cell_of_row w1 _ 0 _ _ _ hz
  have c1 := cell_of_row w1 _ 1 _ _ _ hz
  have c2 := cell_of_row w1 _ 2 _ _ _ hz
  rw [← hw1]
  clear hw1
  by_cases hz0 : r = 0
  · subst hz0
    rw [if_pos rfl] at hV
    have HV : Hid (V = _) := hV
    clear hV
    go_wp2
    refine bodyPost_ret (results_row_tmp Tryz.results59 _ _ w.heap.size 46 _ (0, 0) _ rfl (set3_row hz _ _ _) Tryz.underlying46 rfl (by kernel_rfl)) rfl ⟨?_, set3_below hB _ (Nat.le_refl _) _ _ _⟩
    rw [HV.out]
    rfl
  · rw [if_neg hz0] at hV
    have HV : Hid (V = _) := hV
    clear hV
    have hz1 : ¬ (r : Int) = 0 := by omega
    go_wp2
    refine bodyPost_ret (results_row_tmp Tryz.results59 _ _ w.heap.size 46 _ (0, 0) _ rfl (set3_row hz _ _ _) Tryz.underlying46 rfl (by kernel_rfl)) rfl ⟨?_, set3_below hB _ (Nat.le_refl _) _ _ _⟩
    rw [HV.out]
    rfl
/- Numbers: what ParseInt says of digits. -/
theorem parseM_cons (M a : Nat) (c : UInt8) (r : List UInt8) (h : 48 ≤ c.toNat ∧ c.toNat ≤ 57) : Lib.parseUintM M a (c :: r) = if 1844674407370955162 ≤ a then .range else if M < a * 10 + (c.toNat - 48) then .range else Lib.parseUintM M (a * 10 + (c.toNat - 48)) r := by
  simp only [Lib.parseUintM, if_pos h]
theorem parseM_digits (M : Nat) (hM : M = 18446744073709551615) : ∀ (l : List UInt8) (a : Nat), (∀ c ∈ l, digitB (c.toNat : Int) = true) → a ≤ M → Lib.parseUintM M a l = if valL a l ≤ M then .ok (valL a l) else .range
  | [], a, _, ha => by
    show Lib.NumEnd.ok a = if a ≤ M then .ok a else .range
    rw [if_pos ha]
  | c :: r, a, h, ha => by
    have hc := h c (by simp)
    unfold digitB at hc
    have hc1 : 48 ≤ c.toNat ∧ c.toNat ≤ 57 := by simp at hc; omega
    rw [parseM_cons M a c r hc1, valL_cons, show stp a c = a * 10 + (c.toNat - 48) from rfl]
    obtain ⟨y, hy⟩ : ∃ y, a * 10 + (c.toNat - 48) = y := ⟨_, rfl⟩
    rw [hy]
    have hg := valL_ge r y
    by_cases h1 : 1844674407370955162 ≤ a
    · rw [if_pos h1, if_neg (by omega)]
    · rw [if_neg h1]
      by_cases h2 : M < y
      · rw [if_pos h2, if_neg (by omega)]
      · rw [if_neg h2, parseM_digits M hM r _ (fun d hd => h d (List.mem_cons_of_mem _ hd)) (by omega)]
theorem parse_digits {l : List UInt8} (h0 : l ≠ []) (h : ∀ c ∈ l, digitB (c.toNat : Int) = true) : Lib.parseIntB 64 l = if valL 0 l ≤ 9223372036854775807 then .ok (valL 0 l : Int) else .range := by
  cases l with
  | nil => exact absurd rfl h0
  | cons c r =>
    have hc := h c (by simp)
    unfold digitB at hc
    have hc1 : 48 ≤ c.toNat ∧ c.toNat ≤ 57 := by simp at hc; omega
    rw [Lib.parseIntB_plain 64 c r (by omega) (by omega)]
    unfold Lib.parseUintB
    rw [if_neg (List.cons_ne_nil c r), parseM_digits _ (by decide) _ 0 h (Nat.zero_le _)]
    obtain ⟨v, hv⟩ : ∃ v, valL 0 (c :: r) = v := ⟨_, rfl⟩
    rw [hv]
    by_cases h1 : v ≤ 9223372036854775807
    · rw [if_pos h1, if_pos (by omega)]
      unfold Lib.signlessC
      simp only
      rw [if_neg (by omega)]
    · rw [if_neg h1]
      by_cases h2 : v ≤ 2 ^ 64 - 1
      · rw [if_pos h2]
        unfold Lib.signlessC
        simp only
        rw [if_pos (by omega)]
      · rw [if_neg h2]
        rfl
end Go.Proofs.YthgagldpjledgaaGreatDoor
