/- Expressions, parts, columns and fields, many of them (SyntaxMany, called). -/
import Derived.Test.YthgagldpjledgaaGreatDoorMpx
import Derived.Test.YthgagldpjledgaaGreatDoorDee
namespace Go.Proofs.YthgagldpjledgaaGreatDoor
open Go.RowKit Go.Shelf
attribute [local go_sem] Oper.semAt_some fw0 fw1 fw2
def mOk (q i : Nat) : Bool := (parF (mText q i)).2.2 == 0
theorem mall0 : (List.range 32).all (mOk 0) = true := by decide +kernel
theorem mall1 : (List.range 32).all (mOk 1) = true := by decide +kernel
theorem mall2 : (List.range 32).all (mOk 2) = true := by decide +kernel
theorem mch0 : (List.range 10).all (fun j => mOk 3 (0 + j)) = true := by decide +kernel
theorem mch1 : (List.range 10).all (fun j => mOk 3 (10 + j)) = true := by decide +kernel
theorem mch2 : (List.range 10).all (fun j => mOk 3 (20 + j)) = true := by decide +kernel
theorem mch3 : (List.range 10).all (fun j => mOk 3 (30 + j)) = true := by decide +kernel
theorem mch4 : (List.range 10).all (fun j => mOk 3 (40 + j)) = true := by decide +kernel
theorem mch5 : (List.range 10).all (fun j => mOk 3 (50 + j)) = true := by decide +kernel
theorem mch6 : (List.range 10).all (fun j => mOk 3 (60 + j)) = true := by decide +kernel
theorem mch7 : (List.range 10).all (fun j => mOk 3 (70 + j)) = true := by decide +kernel
theorem mch8 : (List.range 10).all (fun j => mOk 3 (80 + j)) = true := by decide +kernel
theorem mch9 : (List.range 10).all (fun j => mOk 3 (90 + j)) = true := by decide +kernel
theorem mall3 : (List.range 100).all (mOk 3) = true := by
  refine List.all_eq_true.2 (fun i hi => ?_)
  have hi := List.mem_range.1 hi
  have h : ∀ c, (List.range 10).all (fun j => mOk 3 (c + j)) = true → c ≤ i → i < c + 10 → mOk 3 i = true := fun c hc h1 h2 => by
    have h3 := List.all_eq_true.1 hc (i - c) (List.mem_range.2 (by omega))
    have e : c + (i - c) = i := by omega
    simp only [e] at h3
    exact h3
  rcases (by omega : i < 10 ∨ (10 ≤ i ∧ i < 20) ∨ (20 ≤ i ∧ i < 30) ∨ (30 ≤ i ∧ i < 40) ∨ (40 ≤ i ∧ i < 50) ∨ (50 ≤ i ∧ i < 60) ∨ (60 ≤ i ∧ i < 70) ∨ (70 ≤ i ∧ i < 80) ∨ (80 ≤ i ∧ i < 90) ∨ (90 ≤ i ∧ i < 100)) with g | g | g | g | g | g | g | g | g | g
  · exact h 0 mch0 (by omega) (by omega)
  · exact h 10 mch1 (by omega) (by omega)
  · exact h 20 mch2 (by omega) (by omega)
  · exact h 30 mch3 (by omega) (by omega)
  · exact h 40 mch4 (by omega) (by omega)
  · exact h 50 mch5 (by omega) (by omega)
  · exact h 60 mch6 (by omega) (by omega)
  · exact h 70 mch7 (by omega) (by omega)
  · exact h 80 mch8 (by omega) (by omega)
  · exact h 90 mch9 (by omega) (by omega)
theorem lsL_len (s sep : List UInt8) : ∀ n, (lsL s sep n).length = s.length + n * (sep.length + s.length)
  | 0 => by simp [lsL]
  | n + 1 => by
    simp only [lsL, List.length_append, lsL_len s sep n, Nat.add_mul]
    omega
theorem m_len (q i : Nat) (hi : i < 256) : (mText q i).length ≤ 2000 := by
  unfold mText
  (repeat' split) <;> simp only [List.length_append, lsL_len, List.length_cons, List.length_nil] <;> omega
theorem m_says (q i : Nat) (hq : q < 4) (hi : i < 256) : (parF (mText q i)).2.2 = if i < (if q = 3 then 100 else 32) then 0 else 3 := by
  have hl := m_len q i hi
  rcases (by omega : q = 0 ∨ q = 1 ∨ q = 2 ∨ q = 3) with rfl | rfl | rfl | rfl
  · rw [show (if (0 : Nat) = 3 then 100 else 32) = 32 from rfl]
    by_cases h : i < 32
    · rw [if_pos h]
      have := List.all_eq_true.1 mall0 i (List.mem_range.2 h)
      unfold mOk at this
      simpa using this
    · rw [if_neg h]
      exact many0 i (by omega) hl
  · rw [show (if (1 : Nat) = 3 then 100 else 32) = 32 from rfl]
    by_cases h : i < 32
    · rw [if_pos h]
      have := List.all_eq_true.1 mall1 i (List.mem_range.2 h)
      unfold mOk at this
      simpa using this
    · rw [if_neg h]
      exact many1 i (by omega) hl
  · rw [show (if (2 : Nat) = 3 then 100 else 32) = 32 from rfl]
    by_cases h : i < 32
    · rw [if_pos h]
      have := List.all_eq_true.1 mall2 i (List.mem_range.2 h)
      unfold mOk at this
      simpa using this
    · rw [if_neg h]
      exact many2 i (by omega) hl
  · rw [show (if (3 : Nat) = 3 then 100 else 32) = 100 from rfl]
    by_cases h : i < 100
    · rw [if_pos h]
      have := List.all_eq_true.1 mall3 i (List.mem_range.2 h)
      unfold mOk at this
      simpa using this
    · rw [if_neg h]
      exact many3 i (by omega) hl
def lsB (s sep : ByteArray) (i : Nat) : ByteArray := ⟨(lsL s.data.toList sep.data.toList i).toArray⟩
theorem lsB_more (s sep : ByteArray) (i : Nat) : lsB s sep i ++ (sep ++ s) = lsB s sep (i + 1) := by
  refine ba_of ?_
  rw [app_list, app_list]
  rfl
theorem lsB_zero (s sep : ByteArray) : lsB s sep 0 = s := rfl
theorem lsB_size (s sep : ByteArray) (i : Nat) : (lsB s sep i).size = s.size + i * (sep.size + s.size) := by
  rw [Lib.size_eq, Lib.size_eq, Lib.size_eq]
  exact lsL_len _ _ i
set_option maxRecDepth 100000 in
set_option maxHeartbeats 8000000 in
theorem list_one (s sep : ByteArray) (hs : s.size ≤ 10) (hp : sep.size ≤ 10) (k : Nat) (hk : 0 < k ∧ k ≤ 256) (w : World) : Calls Tryz.prog 15 #[.string s, .string sep, .int .i64 (k : Int)] w fun r w' => r = .returned (.string (lsB s sep (k - 1))) ∧ w' = w := by
  have m1 := lsB_more s sep
  have HM : Hid (∀ i, lsB s sep i ++ (sep ++ s) = lsB s sep (i + 1)) := m1
  clear m1
  go_enter Tryz.func15, Tryz.ntmps15
  go_wp2_with fail
  go_loopw [7, 8] (fun c7 c8 wr => ∃ i : Nat, (1 ≤ i ∧ i ≤ k) ∧ c8 = .int .i64 (i : Int) ∧ (∃ o : ByteArray, c7 = .string o ∧ o.size ≤ 5200 ∧ Hid (o = lsB s sep (i - 1))) ∧ wr = w) (fun _ c8 _ => k - (intOf c8).toNat)
  case atStart =>
    have hh : s = lsB s sep (1 - 1) := rfl
    exact ⟨1, ⟨Nat.le_refl _, hk.1⟩, rfl, ⟨_, rfl, by omega, hh⟩, rfl⟩
  case round =>
    obtain ⟨i, ⟨hi1, hi2⟩, rfl, ⟨o, rfl, ho, hoe⟩, hwr0⟩ := hrel
    have hwr1 := hwr0.symm
    clear hwr0
    subst hwr1
    by_cases hlt : i < k
    · have hlt' : (i : Int) < (k : Int) := by omega
      have hh : o ++ (sep ++ s) = lsB s sep (i + 1 - 1) := by
        rw [hoe.out, HM.out, show i - 1 + 1 = i + 1 - 1 by omega]
      have hsz : (o ++ (sep ++ s)).size ≤ 5200 := by
        rw [hh, lsB_size]
        have h1 : (i + 1 - 1) * (sep.size + s.size) ≤ 256 * 20 := Nat.mul_le_mul (by omega) (by omega)
        omega
      have HH : Hid (o ++ (sep ++ s) = lsB s sep (i + 1 - 1) ∧ (o ++ (sep ++ s)).size ≤ 5200) := ⟨hh, hsz⟩
      clear hh hsz
      go_wp2_with fail
      go_roundw
      case rel => exact ⟨i + 1, ⟨by omega, by omega⟩, by go_num, ⟨_, rfl, HH.out.2, HH.out.1⟩, by first | rfl | trivial⟩
      case measure => simp [intOf]; omega
    · obtain rfl : i = k := by omega
      have hlt' : ¬ ((i : Int) < (i : Int)) := by omega
      go_wp2
      go_ret
      exact ⟨by rw [hoe.out]; rfl, rfl⟩
theorem textm_0 (i : Nat) : ((⟨#[73, 78, 83, 69, 82, 84, 32, 73, 78, 84, 79, 32, 116, 32, 86, 65, 76, 85, 69, 32, 91]⟩ : ByteArray) ++ lsB ⟨#[49]⟩ ⟨#[44, 32]⟩ i ++ ⟨#[93]⟩) = ⟨(mText 0 i).toArray⟩ := by
  refine ba_of ?_
  rw [app_list, app_list]
  rfl
set_option maxRecDepth 100000 in
set_option maxHeartbeats 8000000 in
theorem many_0 (a0 a1 : Int) (w : World) (he : Ev w) (hq : bits .and .i64 a1 3 = 0) : Calls Tryz.prog 6 #[.int .i64 a0, .int .i64 a1] w fun r w' => r = .returned (.bool true) ∧ Below w.heap.size w w' := by
  obtain ⟨k, hk6, hk⟩ : ∃ k : Nat, k < 256 ∧ bits .and .i64 a0 255 = (k : Int) := ⟨(a0 % 256).toNat, by omega, by rw [and_255]; omega⟩
  have hml := m_len 0 k hk6
  have ht : (⟨(mText 0 k).toArray⟩ : ByteArray).size ≤ 10000 := by
    rw [Lib.size_eq]
    show (mText 0 k).length ≤ 10000
    omega
  have kp := parse_text ⟨(mText 0 k).toArray⟩ ht w he
  have e0 : (⟨(mText 0 k).toArray⟩ : ByteArray).data.toList = mText 0 k := rfl
  rw [e0] at kp
  have ho := m_says 0 k (by decide) hk6
  obtain ⟨X, hX⟩ : ∃ X, parF (mText 0 k) = X := ⟨_, rfl⟩
  rw [hX] at kp ho
  have hT := textm_0 k
  have kl := list_one ⟨#[49]⟩ ⟨#[44, 32]⟩ (by decide) (by decide) (k + 1) ⟨by omega, by omega⟩ w
  rw [Nat.add_sub_cancel] at kl
  have hsz : (lsB ⟨#[49]⟩ ⟨#[44, 32]⟩ k).size ≤ 5200 := by
    rw [lsB_size]
    have h1 : k * ((⟨#[44, 32]⟩ : ByteArray).size + (⟨#[49]⟩ : ByteArray).size) ≤ 256 * 7 := Nat.mul_le_mul (by omega) (by decide)
    have h2 : (⟨#[49]⟩ : ByteArray).size ≤ 5 := by decide
    omega
  obtain ⟨B, hB⟩ : ∃ B, lsB ⟨#[49]⟩ ⟨#[44, 32]⟩ k = B := ⟨_, rfl⟩
  rw [hB] at kl hT hsz
  obtain ⟨D, hD⟩ : ∃ D : ByteArray, ⟨(mText 0 k).toArray⟩ = D := ⟨_, rfl⟩
  rw [hD] at kp hT
  have HE : Hid (Ev w) := he
  have HO : Hid (X.2.2 = if k < 32 then 0 else 3) := ho
  have hkc : ((k + 1 : Nat) : Int) = (k : Int) + 1 := by omega
  rw [hkc] at kl
  have hwr : wrap64 ((k : Int) + 1) = (k : Int) + 1 := by unfold wrap64; omega
  clear hX ho he e0 hD hB ht hml hkc
  go_enter Tryz.func6, Tryz.ntmps6
  go_wp2_with fail
  refine kl.mono ?_
  rintro r w0 ⟨rfl, hw0⟩
  have hw0' := hw0.symm
  clear hw0
  subst hw0'
  clear kl
  go_wp2_with fail
  refine kp.mono ?_
  rintro r w1 ⟨R, rfl, hx, hb1⟩
  obtain ⟨w2, hw2, ra, r2, hb2, hx2⟩ := box30 hx
  have hB2 := hb1.trans (hb2.mono hb1.size)
  have ka := awake_any w2 (HE.out.later hB2)
  have HB : Hid (Below w.heap.size w w2 ∧ (w1.alloc (.cells #[.int .i64 0, .string ⟨#[]⟩, .string ⟨#[]⟩, .int .i64 0, .string ⟨#[]⟩, .int .i64 0, .bool false, .int .i64 0, .string ⟨#[]⟩, .slice none 0 0, .slice none 0 0, .slice none 0 0, .slice none 0 0, .slice none 0 0, .slice none 0 0, .int .i64 0, .string ⟨#[]⟩, .int .i64 0, .bool false, .int .i64 0, .string ⟨#[]⟩, .slice none 0 0, .slice none 0 0, .slice none 0 0, .slice none 0 0, .slice none 0 0, .bool false, .bool false, .string ⟨#[]⟩, .bool false, .int .i64 (0)] 30)).heap[w1.heap.size]? = some (.cells zero31 30 (0, 0)) ∧ (stA R).all (·.oneCell') = true) := ⟨hB2, ra, hx.ones⟩
  obtain ⟨A, hA⟩ : ∃ A, stA R = A := ⟨_, rfl⟩
  have h31 : Hid (A.size = 31) := by
    have h : A.size = 31 := by rw [← hA]; rfl
    exact h
  rw [hA] at HB hw2 ⊢
  by_cases hkm : k < 32
  · have e3 : X.2.2 = 0 := by
      have := HO.out
      rw [if_pos hkm] at this
      exact this
    rw [e3]
    have h24' : (k : Int) + 1 ≤ 32 := by omega
    clear kp hx hb1 ra r2 hb2 hx2 hA hB2 e3 hkm
    go_wp2_with (first | (refine wpList_put rfl 30 (.tmp 9) (.tmp 44) rfl rfl rfl rfl HB.out.2.1 h31.out (info30.trans (congrArg some h31.out.symm)) HB.out.2.2 ?_; rw [hw2]) | fail)
    refine ka.mono ?_
    rintro r w3 ⟨rfl, hb3⟩
    clear ka hw2
    go_wp2
    all_goals first
      | (exfalso; omega)
      | (go_ret; exact ⟨rfl, HB.out.1.trans (hb3.mono HB.out.1.size)⟩)
  · have e3 : X.2.2 = 3 := by
      have := HO.out
      rw [if_neg hkm] at this
      exact this
    rw [e3]
    have h24' : ¬ ((k : Int) + 1 ≤ 32) := by omega
    clear kp hx hb1 ra r2 hb2 hx2 hA hB2 e3 hkm
    go_wp2_with (first | (refine wpList_put rfl 30 (.tmp 9) (.tmp 44) rfl rfl rfl rfl HB.out.2.1 h31.out (info30.trans (congrArg some h31.out.symm)) HB.out.2.2 ?_; rw [hw2]) | fail)
    refine ka.mono ?_
    rintro r w3 ⟨rfl, hb3⟩
    clear ka hw2
    go_wp2
    all_goals first
      | (exfalso; omega)
      | (go_ret; exact ⟨rfl, HB.out.1.trans (hb3.mono HB.out.1.size)⟩)
theorem textm_1 (i : Nat) : ((⟨#[83, 69, 76, 69, 67, 84, 32]⟩ : ByteArray) ++ lsB ⟨#[97]⟩ ⟨#[44, 32]⟩ i ++ ⟨#[32, 70, 82, 79, 77, 32, 116]⟩) = ⟨(mText 1 i).toArray⟩ := by
  refine ba_of ?_
  rw [app_list, app_list]
  rfl
set_option maxRecDepth 100000 in
set_option maxHeartbeats 8000000 in
theorem many_1 (a0 a1 : Int) (w : World) (he : Ev w) (hq : bits .and .i64 a1 3 = 1) : Calls Tryz.prog 6 #[.int .i64 a0, .int .i64 a1] w fun r w' => r = .returned (.bool true) ∧ Below w.heap.size w w' := by
  obtain ⟨k, hk6, hk⟩ : ∃ k : Nat, k < 256 ∧ bits .and .i64 a0 255 = (k : Int) := ⟨(a0 % 256).toNat, by omega, by rw [and_255]; omega⟩
  have hml := m_len 1 k hk6
  have ht : (⟨(mText 1 k).toArray⟩ : ByteArray).size ≤ 10000 := by
    rw [Lib.size_eq]
    show (mText 1 k).length ≤ 10000
    omega
  have kp := parse_text ⟨(mText 1 k).toArray⟩ ht w he
  have e0 : (⟨(mText 1 k).toArray⟩ : ByteArray).data.toList = mText 1 k := rfl
  rw [e0] at kp
  have ho := m_says 1 k (by decide) hk6
  obtain ⟨X, hX⟩ : ∃ X, parF (mText 1 k) = X := ⟨_, rfl⟩
  rw [hX] at kp ho
  have hT := textm_1 k
  have kl := list_one ⟨#[97]⟩ ⟨#[44, 32]⟩ (by decide) (by decide) (k + 1) ⟨by omega, by omega⟩ w
  rw [Nat.add_sub_cancel] at kl
  have hsz : (lsB ⟨#[97]⟩ ⟨#[44, 32]⟩ k).size ≤ 5200 := by
    rw [lsB_size]
    have h1 : k * ((⟨#[44, 32]⟩ : ByteArray).size + (⟨#[97]⟩ : ByteArray).size) ≤ 256 * 7 := Nat.mul_le_mul (by omega) (by decide)
    have h2 : (⟨#[97]⟩ : ByteArray).size ≤ 5 := by decide
    omega
  obtain ⟨B, hB⟩ : ∃ B, lsB ⟨#[97]⟩ ⟨#[44, 32]⟩ k = B := ⟨_, rfl⟩
  rw [hB] at kl hT hsz
  obtain ⟨D, hD⟩ : ∃ D : ByteArray, ⟨(mText 1 k).toArray⟩ = D := ⟨_, rfl⟩
  rw [hD] at kp hT
  have HE : Hid (Ev w) := he
  have HO : Hid (X.2.2 = if k < 32 then 0 else 3) := ho
  have hkc : ((k + 1 : Nat) : Int) = (k : Int) + 1 := by omega
  rw [hkc] at kl
  have hwr : wrap64 ((k : Int) + 1) = (k : Int) + 1 := by unfold wrap64; omega
  clear hX ho he e0 hD hB ht hml hkc
  go_enter Tryz.func6, Tryz.ntmps6
  go_wp2_with fail
  refine kl.mono ?_
  rintro r w0 ⟨rfl, hw0⟩
  have hw0' := hw0.symm
  clear hw0
  subst hw0'
  clear kl
  go_wp2_with fail
  refine kp.mono ?_
  rintro r w1 ⟨R, rfl, hx, hb1⟩
  obtain ⟨w2, hw2, ra, r2, hb2, hx2⟩ := box30 hx
  have hB2 := hb1.trans (hb2.mono hb1.size)
  have ka := awake_any w2 (HE.out.later hB2)
  have HB : Hid (Below w.heap.size w w2 ∧ (w1.alloc (.cells #[.int .i64 0, .string ⟨#[]⟩, .string ⟨#[]⟩, .int .i64 0, .string ⟨#[]⟩, .int .i64 0, .bool false, .int .i64 0, .string ⟨#[]⟩, .slice none 0 0, .slice none 0 0, .slice none 0 0, .slice none 0 0, .slice none 0 0, .slice none 0 0, .int .i64 0, .string ⟨#[]⟩, .int .i64 0, .bool false, .int .i64 0, .string ⟨#[]⟩, .slice none 0 0, .slice none 0 0, .slice none 0 0, .slice none 0 0, .slice none 0 0, .bool false, .bool false, .string ⟨#[]⟩, .bool false, .int .i64 (0)] 30)).heap[w1.heap.size]? = some (.cells zero31 30 (0, 0)) ∧ (stA R).all (·.oneCell') = true) := ⟨hB2, ra, hx.ones⟩
  obtain ⟨A, hA⟩ : ∃ A, stA R = A := ⟨_, rfl⟩
  have h31 : Hid (A.size = 31) := by
    have h : A.size = 31 := by rw [← hA]; rfl
    exact h
  rw [hA] at HB hw2 ⊢
  by_cases hkm : k < 32
  · have e3 : X.2.2 = 0 := by
      have := HO.out
      rw [if_pos hkm] at this
      exact this
    rw [e3]
    have h24' : (k : Int) + 1 ≤ 32 := by omega
    clear kp hx hb1 ra r2 hb2 hx2 hA hB2 e3 hkm
    go_wp2_with (first | (refine wpList_put rfl 30 (.tmp 9) (.tmp 44) rfl rfl rfl rfl HB.out.2.1 h31.out (info30.trans (congrArg some h31.out.symm)) HB.out.2.2 ?_; rw [hw2]) | fail)
    refine ka.mono ?_
    rintro r w3 ⟨rfl, hb3⟩
    clear ka hw2
    go_wp2
    all_goals first
      | (exfalso; omega)
      | (go_ret; exact ⟨rfl, HB.out.1.trans (hb3.mono HB.out.1.size)⟩)
  · have e3 : X.2.2 = 3 := by
      have := HO.out
      rw [if_neg hkm] at this
      exact this
    rw [e3]
    have h24' : ¬ ((k : Int) + 1 ≤ 32) := by omega
    clear kp hx hb1 ra r2 hb2 hx2 hA hB2 e3 hkm
    go_wp2_with (first | (refine wpList_put rfl 30 (.tmp 9) (.tmp 44) rfl rfl rfl rfl HB.out.2.1 h31.out (info30.trans (congrArg some h31.out.symm)) HB.out.2.2 ?_; rw [hw2]) | fail)
    refine ka.mono ?_
    rintro r w3 ⟨rfl, hb3⟩
    clear ka hw2
    go_wp2
    all_goals first
      | (exfalso; omega)
      | (go_ret; exact ⟨rfl, HB.out.1.trans (hb3.mono HB.out.1.size)⟩)
theorem textm_2 (i : Nat) : ((⟨#[85, 80, 68, 65, 84, 69, 32, 116, 32, 83, 69, 84, 32]⟩ : ByteArray) ++ lsB ⟨#[97, 32, 61, 32, 49]⟩ ⟨#[44, 32]⟩ i) = ⟨(mText 2 i).toArray⟩ := by
  refine ba_of ?_
  rw [app_list]
  rfl
set_option maxRecDepth 100000 in
set_option maxHeartbeats 8000000 in
theorem many_2 (a0 a1 : Int) (w : World) (he : Ev w) (hq : bits .and .i64 a1 3 = 2) : Calls Tryz.prog 6 #[.int .i64 a0, .int .i64 a1] w fun r w' => r = .returned (.bool true) ∧ Below w.heap.size w w' := by
  obtain ⟨k, hk6, hk⟩ : ∃ k : Nat, k < 256 ∧ bits .and .i64 a0 255 = (k : Int) := ⟨(a0 % 256).toNat, by omega, by rw [and_255]; omega⟩
  have hml := m_len 2 k hk6
  have ht : (⟨(mText 2 k).toArray⟩ : ByteArray).size ≤ 10000 := by
    rw [Lib.size_eq]
    show (mText 2 k).length ≤ 10000
    omega
  have kp := parse_text ⟨(mText 2 k).toArray⟩ ht w he
  have e0 : (⟨(mText 2 k).toArray⟩ : ByteArray).data.toList = mText 2 k := rfl
  rw [e0] at kp
  have ho := m_says 2 k (by decide) hk6
  obtain ⟨X, hX⟩ : ∃ X, parF (mText 2 k) = X := ⟨_, rfl⟩
  rw [hX] at kp ho
  have hT := textm_2 k
  have kl := list_one ⟨#[97, 32, 61, 32, 49]⟩ ⟨#[44, 32]⟩ (by decide) (by decide) (k + 1) ⟨by omega, by omega⟩ w
  rw [Nat.add_sub_cancel] at kl
  have hsz : (lsB ⟨#[97, 32, 61, 32, 49]⟩ ⟨#[44, 32]⟩ k).size ≤ 5200 := by
    rw [lsB_size]
    have h1 : k * ((⟨#[44, 32]⟩ : ByteArray).size + (⟨#[97, 32, 61, 32, 49]⟩ : ByteArray).size) ≤ 256 * 7 := Nat.mul_le_mul (by omega) (by decide)
    have h2 : (⟨#[97, 32, 61, 32, 49]⟩ : ByteArray).size ≤ 5 := by decide
    omega
  obtain ⟨B, hB⟩ : ∃ B, lsB ⟨#[97, 32, 61, 32, 49]⟩ ⟨#[44, 32]⟩ k = B := ⟨_, rfl⟩
  rw [hB] at kl hT hsz
  obtain ⟨D, hD⟩ : ∃ D : ByteArray, ⟨(mText 2 k).toArray⟩ = D := ⟨_, rfl⟩
  rw [hD] at kp hT
  have HE : Hid (Ev w) := he
  have HO : Hid (X.2.2 = if k < 32 then 0 else 3) := ho
  have hkc : ((k + 1 : Nat) : Int) = (k : Int) + 1 := by omega
  rw [hkc] at kl
  have hwr : wrap64 ((k : Int) + 1) = (k : Int) + 1 := by unfold wrap64; omega
  clear hX ho he e0 hD hB ht hml hkc
  go_enter Tryz.func6, Tryz.ntmps6
  go_wp2_with fail
  refine kl.mono ?_
  rintro r w0 ⟨rfl, hw0⟩
  have hw0' := hw0.symm
  clear hw0
  subst hw0'
  clear kl
  go_wp2_with fail
  refine kp.mono ?_
  rintro r w1 ⟨R, rfl, hx, hb1⟩
  obtain ⟨w2, hw2, ra, r2, hb2, hx2⟩ := box30 hx
  have hB2 := hb1.trans (hb2.mono hb1.size)
  have ka := awake_any w2 (HE.out.later hB2)
  have HB : Hid (Below w.heap.size w w2 ∧ (w1.alloc (.cells #[.int .i64 0, .string ⟨#[]⟩, .string ⟨#[]⟩, .int .i64 0, .string ⟨#[]⟩, .int .i64 0, .bool false, .int .i64 0, .string ⟨#[]⟩, .slice none 0 0, .slice none 0 0, .slice none 0 0, .slice none 0 0, .slice none 0 0, .slice none 0 0, .int .i64 0, .string ⟨#[]⟩, .int .i64 0, .bool false, .int .i64 0, .string ⟨#[]⟩, .slice none 0 0, .slice none 0 0, .slice none 0 0, .slice none 0 0, .slice none 0 0, .bool false, .bool false, .string ⟨#[]⟩, .bool false, .int .i64 (0)] 30)).heap[w1.heap.size]? = some (.cells zero31 30 (0, 0)) ∧ (stA R).all (·.oneCell') = true) := ⟨hB2, ra, hx.ones⟩
  obtain ⟨A, hA⟩ : ∃ A, stA R = A := ⟨_, rfl⟩
  have h31 : Hid (A.size = 31) := by
    have h : A.size = 31 := by rw [← hA]; rfl
    exact h
  rw [hA] at HB hw2 ⊢
  by_cases hkm : k < 32
  · have e3 : X.2.2 = 0 := by
      have := HO.out
      rw [if_pos hkm] at this
      exact this
    rw [e3]
    have h24' : (k : Int) + 1 ≤ 32 := by omega
    clear kp hx hb1 ra r2 hb2 hx2 hA hB2 e3 hkm
    go_wp2_with (first | (refine wpList_put rfl 30 (.tmp 9) (.tmp 44) rfl rfl rfl rfl HB.out.2.1 h31.out (info30.trans (congrArg some h31.out.symm)) HB.out.2.2 ?_; rw [hw2]) | fail)
    refine ka.mono ?_
    rintro r w3 ⟨rfl, hb3⟩
    clear ka hw2
    go_wp2
    all_goals first
      | (exfalso; omega)
      | (go_ret; exact ⟨rfl, HB.out.1.trans (hb3.mono HB.out.1.size)⟩)
  · have e3 : X.2.2 = 3 := by
      have := HO.out
      rw [if_neg hkm] at this
      exact this
    rw [e3]
    have h24' : ¬ ((k : Int) + 1 ≤ 32) := by omega
    clear kp hx hb1 ra r2 hb2 hx2 hA hB2 e3 hkm
    go_wp2_with (first | (refine wpList_put rfl 30 (.tmp 9) (.tmp 44) rfl rfl rfl rfl HB.out.2.1 h31.out (info30.trans (congrArg some h31.out.symm)) HB.out.2.2 ?_; rw [hw2]) | fail)
    refine ka.mono ?_
    rintro r w3 ⟨rfl, hb3⟩
    clear ka hw2
    go_wp2
    all_goals first
      | (exfalso; omega)
      | (go_ret; exact ⟨rfl, HB.out.1.trans (hb3.mono HB.out.1.size)⟩)
theorem textm_3 (i : Nat) : ((⟨#[68, 69, 76, 69, 84, 69, 32, 70, 82, 79, 77, 32, 116, 32, 87, 72, 69, 82, 69, 32]⟩ : ByteArray) ++ lsB ⟨#[97]⟩ ⟨#[43]⟩ i) = ⟨(mText 3 i).toArray⟩ := by
  refine ba_of ?_
  rw [app_list]
  rfl
set_option maxRecDepth 100000 in
set_option maxHeartbeats 8000000 in
theorem many_3 (a0 a1 : Int) (w : World) (he : Ev w) (hq : bits .and .i64 a1 3 = 3) : Calls Tryz.prog 6 #[.int .i64 a0, .int .i64 a1] w fun r w' => r = .returned (.bool true) ∧ Below w.heap.size w w' := by
  obtain ⟨k, hk6, hk⟩ : ∃ k : Nat, k < 256 ∧ bits .and .i64 a0 255 = (k : Int) := ⟨(a0 % 256).toNat, by omega, by rw [and_255]; omega⟩
  have hml := m_len 3 k hk6
  have ht : (⟨(mText 3 k).toArray⟩ : ByteArray).size ≤ 10000 := by
    rw [Lib.size_eq]
    show (mText 3 k).length ≤ 10000
    omega
  have kp := parse_text ⟨(mText 3 k).toArray⟩ ht w he
  have e0 : (⟨(mText 3 k).toArray⟩ : ByteArray).data.toList = mText 3 k := rfl
  rw [e0] at kp
  have ho := m_says 3 k (by decide) hk6
  obtain ⟨X, hX⟩ : ∃ X, parF (mText 3 k) = X := ⟨_, rfl⟩
  rw [hX] at kp ho
  have hT := textm_3 k
  have kl := list_one ⟨#[97]⟩ ⟨#[43]⟩ (by decide) (by decide) (k + 1) ⟨by omega, by omega⟩ w
  rw [Nat.add_sub_cancel] at kl
  have hsz : (lsB ⟨#[97]⟩ ⟨#[43]⟩ k).size ≤ 5200 := by
    rw [lsB_size]
    have h1 : k * ((⟨#[43]⟩ : ByteArray).size + (⟨#[97]⟩ : ByteArray).size) ≤ 256 * 7 := Nat.mul_le_mul (by omega) (by decide)
    have h2 : (⟨#[97]⟩ : ByteArray).size ≤ 5 := by decide
    omega
  obtain ⟨B, hB⟩ : ∃ B, lsB ⟨#[97]⟩ ⟨#[43]⟩ k = B := ⟨_, rfl⟩
  rw [hB] at kl hT hsz
  obtain ⟨D, hD⟩ : ∃ D : ByteArray, ⟨(mText 3 k).toArray⟩ = D := ⟨_, rfl⟩
  rw [hD] at kp hT
  have HE : Hid (Ev w) := he
  have HO : Hid (X.2.2 = if k < 100 then 0 else 3) := ho
  have hkc : ((k + 1 : Nat) : Int) = (k : Int) + 1 := by omega
  rw [hkc] at kl
  have hwr : wrap64 ((k : Int) + 1) = (k : Int) + 1 := by unfold wrap64; omega
  clear hX ho he e0 hD hB ht hml hkc
  go_enter Tryz.func6, Tryz.ntmps6
  go_wp2_with fail
  refine kl.mono ?_
  rintro r w0 ⟨rfl, hw0⟩
  have hw0' := hw0.symm
  clear hw0
  subst hw0'
  clear kl
  go_wp2_with fail
  refine kp.mono ?_
  rintro r w1 ⟨R, rfl, hx, hb1⟩
  obtain ⟨w2, hw2, ra, r2, hb2, hx2⟩ := box30 hx
  have hB2 := hb1.trans (hb2.mono hb1.size)
  have ka := awake_any w2 (HE.out.later hB2)
  have HB : Hid (Below w.heap.size w w2 ∧ (w1.alloc (.cells #[.int .i64 0, .string ⟨#[]⟩, .string ⟨#[]⟩, .int .i64 0, .string ⟨#[]⟩, .int .i64 0, .bool false, .int .i64 0, .string ⟨#[]⟩, .slice none 0 0, .slice none 0 0, .slice none 0 0, .slice none 0 0, .slice none 0 0, .slice none 0 0, .int .i64 0, .string ⟨#[]⟩, .int .i64 0, .bool false, .int .i64 0, .string ⟨#[]⟩, .slice none 0 0, .slice none 0 0, .slice none 0 0, .slice none 0 0, .slice none 0 0, .bool false, .bool false, .string ⟨#[]⟩, .bool false, .int .i64 (0)] 30)).heap[w1.heap.size]? = some (.cells zero31 30 (0, 0)) ∧ (stA R).all (·.oneCell') = true) := ⟨hB2, ra, hx.ones⟩
  obtain ⟨A, hA⟩ : ∃ A, stA R = A := ⟨_, rfl⟩
  have h31 : Hid (A.size = 31) := by
    have h : A.size = 31 := by rw [← hA]; rfl
    exact h
  rw [hA] at HB hw2 ⊢
  by_cases hkm : k < 100
  · have e3 : X.2.2 = 0 := by
      have := HO.out
      rw [if_pos hkm] at this
      exact this
    rw [e3]
    have h24' : (k : Int) + 1 ≤ 100 := by omega
    clear kp hx hb1 ra r2 hb2 hx2 hA hB2 e3 hkm
    go_wp2_with (first | (refine wpList_put rfl 30 (.tmp 9) (.tmp 44) rfl rfl rfl rfl HB.out.2.1 h31.out (info30.trans (congrArg some h31.out.symm)) HB.out.2.2 ?_; rw [hw2]) | fail)
    refine ka.mono ?_
    rintro r w3 ⟨rfl, hb3⟩
    clear ka hw2
    go_wp2
    all_goals first
      | (exfalso; omega)
      | (go_ret; exact ⟨rfl, HB.out.1.trans (hb3.mono HB.out.1.size)⟩)
  · have e3 : X.2.2 = 3 := by
      have := HO.out
      rw [if_neg hkm] at this
      exact this
    rw [e3]
    have h24' : ¬ ((k : Int) + 1 ≤ 100) := by omega
    clear kp hx hb1 ra r2 hb2 hx2 hA hB2 e3 hkm
    go_wp2_with (first | (refine wpList_put rfl 30 (.tmp 9) (.tmp 44) rfl rfl rfl rfl HB.out.2.1 h31.out (info30.trans (congrArg some h31.out.symm)) HB.out.2.2 ?_; rw [hw2]) | fail)
    refine ka.mono ?_
    rintro r w3 ⟨rfl, hb3⟩
    clear ka hw2
    go_wp2
    all_goals first
      | (exfalso; omega)
      | (go_ret; exact ⟨rfl, HB.out.1.trans (hb3.mono HB.out.1.size)⟩)
theorem many_walk (a0 a1 : Int) (w : World) (he : Ev w) : Calls Tryz.prog 6 #[.int .i64 a0, .int .i64 a1] w fun r w' => r = .returned (.bool true) ∧ Below w.heap.size w w' := by
  have h := and_3 a1
  rcases (by omega : a1 % 4 = 0 ∨ a1 % 4 = 1 ∨ a1 % 4 = 2 ∨ a1 % 4 = 3) with e | e | e | e
  · exact many_0 a0 a1 w he (by rw [h, e])
  · exact many_1 a0 a1 w he (by rw [h, e])
  · exact many_2 a0 a1 w he (by rw [h, e])
  · exact many_3 a0 a1 w he (by rw [h, e])
end Go.Proofs.YthgagldpjledgaaGreatDoor
