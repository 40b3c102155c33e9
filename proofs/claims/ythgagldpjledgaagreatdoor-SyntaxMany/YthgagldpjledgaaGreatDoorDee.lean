/- Brackets, minus signs and NOTs within one another (SyntaxDeep, called). -/
import Derived.Test.YthgagldpjledgaaGreatDoorWht
namespace Go.Proofs.YthgagldpjledgaaGreatDoor
open Go.RowKit Go.Shelf
attribute [local go_sem] Oper.semAt_some fw0 fw1 fw2
theorem and_63 (n : Int) : bits .and .i64 n 63 = n % 64 := by
  have h7 : (BitVec.ofInt 64 63).toNat = 2 ^ 6 - 1 := by decide
  have key : (BitVec.ofInt 64 n &&& BitVec.ofInt 64 63).toNat = (n % ((2 ^ 64 : Nat) : Int)).toNat % 2 ^ 6 := by
    rw [BitVec.toNat_and, BitVec.toNat_ofInt, h7, Nat.and_two_pow_sub_one_eq_mod]
  show IntKind.i64.wrap ((BitVec.ofInt 64 n &&& BitVec.ofInt 64 63).toNat : Nat) = n % 64
  rw [key, IntKind.wrap_i64]
  omega
theorem and_3 (n : Int) : bits .and .i64 n 3 = n % 4 := by
  have h7 : (BitVec.ofInt 64 3).toNat = 2 ^ 2 - 1 := by decide
  have key : (BitVec.ofInt 64 n &&& BitVec.ofInt 64 3).toNat = (n % ((2 ^ 64 : Nat) : Int)).toNat % 2 ^ 2 := by
    rw [BitVec.toNat_and, BitVec.toNat_ofInt, h7, Nat.and_two_pow_sub_one_eq_mod]
  show IntKind.i64.wrap ((BitVec.ofInt 64 n &&& BitVec.ofInt 64 3).toNat : Nat) = n % 4
  rw [key, IntKind.wrap_i64]
  omega
theorem and_255 (n : Int) : bits .and .i64 n 255 = n % 256 := by
  have h7 : (BitVec.ofInt 64 255).toNat = 2 ^ 8 - 1 := by decide
  have key : (BitVec.ofInt 64 n &&& BitVec.ofInt 64 255).toNat = (n % ((2 ^ 64 : Nat) : Int)).toNat % 2 ^ 8 := by
    rw [BitVec.toNat_and, BitVec.toNat_ofInt, h7, Nat.and_two_pow_sub_one_eq_mod]
  show IntKind.i64.wrap ((BitVec.ofInt 64 n &&& BitVec.ofInt 64 255).toNat : Nat) = n % 256
  rw [key, IntKind.wrap_i64]
  omega
theorem app_list (a b : ByteArray) : (a ++ b).data.toList = a.data.toList ++ b.data.toList := by
  rw [ByteArray.data_append]
  simp
def oC (q : Nat) : List UInt8 := if q = 0 then [40] else if q = 1 then [45, 32] else if q = 2 then [91] else [78, 79, 84, 32]
def eC (q : Nat) : List UInt8 := if q = 0 then [41] else if q = 2 then [93] else []
def dO (q : Nat) : Nat → List UInt8
  | 0 => []
  | n + 1 => dO q n ++ oC q
def dE (q : Nat) : Nat → List UInt8
  | 0 => []
  | n + 1 => eC q ++ dE q n
def dText (q i : Nat) : List UInt8 := [68, 69, 76, 69, 84, 69, 32, 70, 82, 79, 77, 32, 116, 32, 87, 72, 69, 82, 69, 32] ++ dO q i ++ [97] ++ dE q i
def dOk (q i : Nat) : Bool := if 24 < i + 1 then (parF (dText q i)).2.2 == 3 else (parF (dText q i)).2.2 == 0 && ((parF (dText q i)).1.wh []).k != 0
theorem dall0 : (List.range 64).all (dOk 0) = true := by decide +kernel
theorem dall1 : (List.range 64).all (dOk 1) = true := by decide +kernel
theorem dall2 : (List.range 64).all (dOk 2) = true := by decide +kernel
theorem dall3 : (List.range 64).all (dOk 3) = true := by decide +kernel
theorem d_ok (q i : Nat) (hq : q < 4) (hi : i < 64) : dOk q i = true := by
  have hm : i ∈ List.range 64 := List.mem_range.2 hi
  rcases (by omega : q = 0 ∨ q = 1 ∨ q = 2 ∨ q = 3) with rfl | rfl | rfl | rfl
  · exact List.all_eq_true.1 dall0 i hm
  · exact List.all_eq_true.1 dall1 i hm
  · exact List.all_eq_true.1 dall2 i hm
  · exact List.all_eq_true.1 dall3 i hm
theorem dO_len (q : Nat) : ∀ n, (dO q n).length ≤ n * 4
  | 0 => Nat.le_refl _
  | n + 1 => by
    have h := dO_len q n
    have h2 : (oC q).length ≤ 4 := by unfold oC; (repeat' split) <;> decide
    simp only [dO, List.length_append]
    omega
theorem dE_len (q : Nat) : ∀ n, (dE q n).length ≤ n
  | 0 => Nat.le_refl _
  | n + 1 => by
    have h := dE_len q n
    have h2 : (eC q).length ≤ 1 := by unfold eC; (repeat' split) <;> decide
    simp only [dE, List.length_append]
    omega
def oB (q i : Nat) : ByteArray := ⟨(dO q i).toArray⟩
def eB (q i : Nat) : ByteArray := ⟨(dE q i).toArray⟩
theorem oB_more (q i : Nat) : oB q i ++ ⟨(oC q).toArray⟩ = oB q (i + 1) := by
  have h := app_list (oB q i) ⟨(oC q).toArray⟩
  exact ba_of h
theorem eB_more (q i : Nat) : (⟨(eC q).toArray⟩ : ByteArray) ++ eB q i = eB q (i + 1) := by
  have h := app_list ⟨(eC q).toArray⟩ (eB q i)
  exact ba_of h
theorem eB_same (q i : Nat) (h : eC q = []) : eB q i = ⟨#[]⟩ := by
  have e : dE q i = [] := by
    induction i with
    | zero => rfl
    | succ n ih => simp only [dE, h, ih, List.append_nil]
  unfold eB
  rw [e]
theorem text_d (q i : Nat) : ((⟨#[68, 69, 76, 69, 84, 69, 32, 70, 82, 79, 77, 32, 116, 32, 87, 72, 69, 82, 69, 32]⟩ : ByteArray) ++ oB q i ++ ⟨#[97]⟩ ++ eB q i) = ⟨(dText q i).toArray⟩ := by
  refine ba_of ?_
  rw [app_list, app_list, app_list]
  rfl
theorem text_size (q i : Nat) (hi : i < 64) : (⟨(dText q i).toArray⟩ : ByteArray).size ≤ 10000 := by
  rw [Lib.size_eq]
  have h1 := dO_len q i
  have h2 := dE_len q i
  show (dText q i).length ≤ 10000
  unfold dText
  simp only [List.length_append, List.length_cons, List.length_nil]
  omega
set_option maxRecDepth 100000 in
set_option maxHeartbeats 8000000 in
theorem deep_0 (a0 a1 : Int) (w : World) (he : Ev w) (hq : bits .and .i64 a1 3 = 0) : Calls Tryz.prog 5 #[.int .i64 a0, .int .i64 a1] w fun r w' => r = .returned (.bool true) ∧ Below w.heap.size w w' := by
  obtain ⟨k, hk6, hk⟩ : ∃ k : Nat, k < 64 ∧ bits .and .i64 a0 63 = (k : Int) := ⟨(a0 % 64).toNat, by omega, by rw [and_63]; omega⟩
  have kp := parse_text ⟨(dText 0 k).toArray⟩ (text_size 0 k hk6) w he
  have e0 : (⟨(dText 0 k).toArray⟩ : ByteArray).data.toList = dText 0 k := rfl
  rw [e0] at kp
  have ho := d_ok 0 k (by decide) hk6
  unfold dOk at ho
  obtain ⟨X, hX⟩ : ∃ X, parF (dText 0 k) = X := ⟨_, rfl⟩
  rw [hX] at kp ho
  have HT : Hid ((⟨#[68, 69, 76, 69, 84, 69, 32, 70, 82, 79, 77, 32, 116, 32, 87, 72, 69, 82, 69, 32]⟩ : ByteArray) ++ oB 0 k ++ ⟨#[97]⟩ ++ eB 0 k = ⟨(dText 0 k).toArray⟩) := text_d 0 k
  obtain ⟨D, hD⟩ : ∃ D : ByteArray, ⟨(dText 0 k).toArray⟩ = D := ⟨_, rfl⟩
  rw [hD] at kp HT
  have HE : Hid (Ev w) := he
  have HO : Hid ((if 24 < k + 1 then X.2.2 == 3 else X.2.2 == 0 && (X.1.wh []).k != 0) = true) := ho
  have m1 := fun i => oB_more 0 i
  have m2 := fun i => eB_more 0 i
  simp only [oC, eC] at m1 m2
  have m1' : ∀ i, oB 0 i ++ ⟨#[40]⟩ = oB 0 (i + 1) := m1
  have z1 : oB 0 0 = ⟨#[]⟩ := rfl
  have z2 : eB 0 0 = ⟨#[]⟩ := rfl
  have m2' : ∀ i, (⟨#[41]⟩ : ByteArray) ++ eB 0 i = eB 0 (i + 1) := m2
  have HM : Hid ((∀ i, oB 0 i ++ ⟨#[40]⟩ = oB 0 (i + 1)) ∧ ∀ i, (⟨#[41]⟩ : ByteArray) ++ eB 0 i = eB 0 (i + 1)) := ⟨m1', m2'⟩
  clear hX ho he e0 hD m1 m2 m1' m2' z1 z2
  go_enter Tryz.func5, Tryz.ntmps5
  go_wp2_with fail
  go_loopw [6, 7, 8] (fun c6 c7 c8 wr => ∃ i : Nat, i ≤ k ∧ c8 = .int .i64 (i : Int) ∧ (∃ o e : ByteArray, c6 = .string o ∧ c7 = .string e ∧ Hid (o = oB 0 i ∧ e = eB 0 i)) ∧ wr = w) (fun _ _ c8 _ => k - (intOf c8).toNat)
  case atStart =>
    have hh : (⟨#[]⟩ : ByteArray) = oB 0 0 ∧ (⟨#[]⟩ : ByteArray) = eB 0 0 := ⟨rfl, rfl⟩
    exact ⟨0, Nat.zero_le _, rfl, ⟨_, _, rfl, rfl, hh⟩, rfl⟩
  case round =>
    obtain ⟨i, hi, rfl, ⟨o, e, rfl, rfl, hoe⟩, hwr0⟩ := hrel
    have hwr1 := hwr0.symm
    clear hwr0
    subst hwr1
    have so : o.size ≤ 300 := by
      rw [hoe.out.1, Lib.size_eq]
      have := dO_len 0 i
      show (dO 0 i).length ≤ 300
      omega
    have se : e.size ≤ 300 := by
      rw [hoe.out.2, Lib.size_eq]
      have := dE_len 0 i
      show (dE 0 i).length ≤ 300
      omega
    by_cases hlt : i < k
    · have hlt' : (i : Int) < (k : Int) := by omega
      have n0 : ¬ ((0 : Int) = 1) := by decide
      go_wp2_with fail
      go_roundw
      case rel =>
        have hh : o ++ (⟨#[40]⟩ : ByteArray) = oB 0 (i + 1) ∧ (⟨#[41]⟩ : ByteArray) ++ e = eB 0 (i + 1) := by
          rw [hoe.out.1, hoe.out.2]
          exact ⟨HM.out.1 i, HM.out.2 i⟩
        exact ⟨i + 1, by omega, by go_num, ⟨_, _, rfl, rfl, hh⟩, by first | rfl | trivial⟩
      case measure => simp [intOf]; omega
    · obtain rfl : i = k := by omega
      have hlt' : ¬ ((i : Int) < (i : Int)) := by omega
      have hT : (⟨#[68, 69, 76, 69, 84, 69, 32, 70, 82, 79, 77, 32, 116, 32, 87, 72, 69, 82, 69, 32]⟩ : ByteArray) ++ o ++ ⟨#[97]⟩ ++ e = D := by
        rw [hoe.out.1, hoe.out.2]
        exact HT.out
      go_wp2_with fail
      refine kp.mono ?_
      rintro r w1 ⟨R, rfl, hx, hb1⟩
      obtain ⟨w2, hw2, ra, r2, hb2, hx2⟩ := box30 hx
      have hB2 := hb1.trans (hb2.mono hb1.size)
      have ka := awake_any w2 (HE.out.later hB2)
      obtain ⟨d, hd⟩ := hx2.wh
      obtain ⟨t1, -, -⟩ := hd.top
      have q15 : w2.cell? ⟨w1.heap.size, 15, none⟩ = some (.int .i64 R.wh.k) := by rw [cell_of_row w2 _ 15 _ _ _ r2]; rfl
      have lx := lt_of_row r2
      have HB : Hid (Below w.heap.size w w2 ∧ (w1.alloc (.cells #[.int .i64 0, .string ⟨#[]⟩, .string ⟨#[]⟩, .int .i64 0, .string ⟨#[]⟩, .int .i64 0, .bool false, .int .i64 0, .string ⟨#[]⟩, .slice none 0 0, .slice none 0 0, .slice none 0 0, .slice none 0 0, .slice none 0 0, .slice none 0 0, .int .i64 0, .string ⟨#[]⟩, .int .i64 0, .bool false, .int .i64 0, .string ⟨#[]⟩, .slice none 0 0, .slice none 0 0, .slice none 0 0, .slice none 0 0, .slice none 0 0, .bool false, .bool false, .string ⟨#[]⟩, .bool false, .int .i64 (0)] 30)).heap[w1.heap.size]? = some (.cells zero31 30 (0, 0)) ∧ (stA R).all (·.oneCell') = true) := ⟨hB2, ra, hx.ones⟩
      obtain ⟨A, hA⟩ : ∃ A, stA R = A := ⟨_, rfl⟩
      have h31 : Hid (A.size = 31) := by
        have h : A.size = 31 := by rw [← hA]; rfl
        exact h
      rw [hA] at HB hw2 ⊢
      by_cases h24 : 24 < i + 1
      · have e3 : X.2.2 = 3 := by
          have := HO.out
          rw [if_pos h24] at this
          simpa using this
        rw [e3]
        have h24' : (24 : Int) < (i : Int) + 1 := by omega
        have hwr : wrap64 ((i : Int) + 1) = (i : Int) + 1 := by unfold wrap64; omega
        clear kp hx hb1 ra r2 hb2 hx2 hd hA hB2 t1 q15 e3 h24 hoe
        go_wp2_with (first | (refine wpList_put rfl 30 (.tmp 9) (.tmp 46) rfl rfl rfl rfl HB.out.2.1 h31.out (info30.trans (congrArg some h31.out.symm)) HB.out.2.2 ?_; rw [hw2]) | fail)
        refine ka.mono ?_
        rintro r w3 ⟨rfl, hb3⟩
        clear ka hw2
        go_wp2
        go_ret
        exact ⟨rfl, HB.out.1.trans (hb3.mono HB.out.1.size)⟩
      · have e3 : X.2.2 = 0 ∧ (X.1.wh []).k ≠ 0 := by
          have := HO.out
          rw [if_neg h24] at this
          simpa using this
        rw [e3.1]
        have t15 : ¬ (R.wh.k = 0) := by
          rw [t1]
          have := e3.2
          omega
        have t15b : (R.wh.k != 0) = true := by simpa using t15
        have h24' : ¬ (24 : Int) < (i : Int) + 1 := by omega
        have hwr : wrap64 ((i : Int) + 1) = (i : Int) + 1 := by unfold wrap64; omega
        clear kp hx hb1 ra r2 hb2 hx2 hd hA hB2 t1 e3 h24 hoe
        go_wp2_with (first | (refine wpList_put rfl 30 (.tmp 9) (.tmp 46) rfl rfl rfl rfl HB.out.2.1 h31.out (info30.trans (congrArg some h31.out.symm)) HB.out.2.2 ?_; rw [hw2]) | fail)
        refine ka.mono ?_
        rintro r w3 ⟨rfl, hb3⟩
        have q15' := (cell_later hb3 lx).trans q15
        clear ka hw2 q15
        go_wp2
        go_ret
        exact ⟨rfl, HB.out.1.trans (hb3.mono HB.out.1.size)⟩
set_option maxRecDepth 100000 in
set_option maxHeartbeats 8000000 in
theorem deep_1 (a0 a1 : Int) (w : World) (he : Ev w) (hq : bits .and .i64 a1 3 = 1) : Calls Tryz.prog 5 #[.int .i64 a0, .int .i64 a1] w fun r w' => r = .returned (.bool true) ∧ Below w.heap.size w w' := by
  obtain ⟨k, hk6, hk⟩ : ∃ k : Nat, k < 64 ∧ bits .and .i64 a0 63 = (k : Int) := ⟨(a0 % 64).toNat, by omega, by rw [and_63]; omega⟩
  have kp := parse_text ⟨(dText 1 k).toArray⟩ (text_size 1 k hk6) w he
  have e0 : (⟨(dText 1 k).toArray⟩ : ByteArray).data.toList = dText 1 k := rfl
  rw [e0] at kp
  have ho := d_ok 1 k (by decide) hk6
  unfold dOk at ho
  obtain ⟨X, hX⟩ : ∃ X, parF (dText 1 k) = X := ⟨_, rfl⟩
  rw [hX] at kp ho
  have HT : Hid ((⟨#[68, 69, 76, 69, 84, 69, 32, 70, 82, 79, 77, 32, 116, 32, 87, 72, 69, 82, 69, 32]⟩ : ByteArray) ++ oB 1 k ++ ⟨#[97]⟩ ++ eB 1 k = ⟨(dText 1 k).toArray⟩) := text_d 1 k
  obtain ⟨D, hD⟩ : ∃ D : ByteArray, ⟨(dText 1 k).toArray⟩ = D := ⟨_, rfl⟩
  rw [hD] at kp HT
  have HE : Hid (Ev w) := he
  have HO : Hid ((if 24 < k + 1 then X.2.2 == 3 else X.2.2 == 0 && (X.1.wh []).k != 0) = true) := ho
  have m1 := fun i => oB_more 1 i
  have m2 := fun i => eB_more 1 i
  simp only [oC, eC] at m1 m2
  have m1' : ∀ i, oB 1 i ++ ⟨#[45, 32]⟩ = oB 1 (i + 1) := m1
  have z1 : oB 1 0 = ⟨#[]⟩ := rfl
  have z2 : eB 1 0 = ⟨#[]⟩ := rfl
  have m2' : ∀ i, eB 1 i = ⟨#[]⟩ := fun i => eB_same 1 i rfl
  have HM : Hid ((∀ i, oB 1 i ++ ⟨#[45, 32]⟩ = oB 1 (i + 1)) ∧ ∀ i, eB 1 i = ⟨#[]⟩) := ⟨m1', m2'⟩
  clear hX ho he e0 hD m1 m2 m1' m2' z1 z2
  go_enter Tryz.func5, Tryz.ntmps5
  go_wp2_with fail
  go_loopw [6, 7, 8] (fun c6 c7 c8 wr => ∃ i : Nat, i ≤ k ∧ c8 = .int .i64 (i : Int) ∧ (∃ o e : ByteArray, c6 = .string o ∧ c7 = .string e ∧ Hid (o = oB 1 i ∧ e = eB 1 i)) ∧ wr = w) (fun _ _ c8 _ => k - (intOf c8).toNat)
  case atStart =>
    have hh : (⟨#[]⟩ : ByteArray) = oB 1 0 ∧ (⟨#[]⟩ : ByteArray) = eB 1 0 := ⟨rfl, rfl⟩
    exact ⟨0, Nat.zero_le _, rfl, ⟨_, _, rfl, rfl, hh⟩, rfl⟩
  case round =>
    obtain ⟨i, hi, rfl, ⟨o, e, rfl, rfl, hoe⟩, hwr0⟩ := hrel
    have hwr1 := hwr0.symm
    clear hwr0
    subst hwr1
    have so : o.size ≤ 300 := by
      rw [hoe.out.1, Lib.size_eq]
      have := dO_len 1 i
      show (dO 1 i).length ≤ 300
      omega
    have se : e.size ≤ 300 := by
      rw [hoe.out.2, Lib.size_eq]
      have := dE_len 1 i
      show (dE 1 i).length ≤ 300
      omega
    by_cases hlt : i < k
    · have hlt' : (i : Int) < (k : Int) := by omega
      have n0 : ¬ ((1 : Int) = 2) := by decide
      go_wp2_with fail
      go_roundw
      case rel =>
        have hh : o ++ (⟨#[45, 32]⟩ : ByteArray) = oB 1 (i + 1) ∧ e = eB 1 (i + 1) := by
          refine ⟨by rw [hoe.out.1]; exact HM.out.1 i, ?_⟩
          rw [hoe.out.2, HM.out.2 i, HM.out.2 (i + 1)]
        exact ⟨i + 1, by omega, by go_num, ⟨_, _, rfl, rfl, hh⟩, by first | rfl | trivial⟩
      case measure => simp [intOf]; omega
    · obtain rfl : i = k := by omega
      have hlt' : ¬ ((i : Int) < (i : Int)) := by omega
      have hT : (⟨#[68, 69, 76, 69, 84, 69, 32, 70, 82, 79, 77, 32, 116, 32, 87, 72, 69, 82, 69, 32]⟩ : ByteArray) ++ o ++ ⟨#[97]⟩ ++ e = D := by
        rw [hoe.out.1, hoe.out.2]
        exact HT.out
      go_wp2_with fail
      refine kp.mono ?_
      rintro r w1 ⟨R, rfl, hx, hb1⟩
      obtain ⟨w2, hw2, ra, r2, hb2, hx2⟩ := box30 hx
      have hB2 := hb1.trans (hb2.mono hb1.size)
      have ka := awake_any w2 (HE.out.later hB2)
      obtain ⟨d, hd⟩ := hx2.wh
      obtain ⟨t1, -, -⟩ := hd.top
      have q15 : w2.cell? ⟨w1.heap.size, 15, none⟩ = some (.int .i64 R.wh.k) := by rw [cell_of_row w2 _ 15 _ _ _ r2]; rfl
      have lx := lt_of_row r2
      have HB : Hid (Below w.heap.size w w2 ∧ (w1.alloc (.cells #[.int .i64 0, .string ⟨#[]⟩, .string ⟨#[]⟩, .int .i64 0, .string ⟨#[]⟩, .int .i64 0, .bool false, .int .i64 0, .string ⟨#[]⟩, .slice none 0 0, .slice none 0 0, .slice none 0 0, .slice none 0 0, .slice none 0 0, .slice none 0 0, .int .i64 0, .string ⟨#[]⟩, .int .i64 0, .bool false, .int .i64 0, .string ⟨#[]⟩, .slice none 0 0, .slice none 0 0, .slice none 0 0, .slice none 0 0, .slice none 0 0, .bool false, .bool false, .string ⟨#[]⟩, .bool false, .int .i64 (0)] 30)).heap[w1.heap.size]? = some (.cells zero31 30 (0, 0)) ∧ (stA R).all (·.oneCell') = true) := ⟨hB2, ra, hx.ones⟩
      obtain ⟨A, hA⟩ : ∃ A, stA R = A := ⟨_, rfl⟩
      have h31 : Hid (A.size = 31) := by
        have h : A.size = 31 := by rw [← hA]; rfl
        exact h
      rw [hA] at HB hw2 ⊢
      by_cases h24 : 24 < i + 1
      · have e3 : X.2.2 = 3 := by
          have := HO.out
          rw [if_pos h24] at this
          simpa using this
        rw [e3]
        have h24' : (24 : Int) < (i : Int) + 1 := by omega
        have hwr : wrap64 ((i : Int) + 1) = (i : Int) + 1 := by unfold wrap64; omega
        clear kp hx hb1 ra r2 hb2 hx2 hd hA hB2 t1 q15 e3 h24 hoe
        go_wp2_with (first | (refine wpList_put rfl 30 (.tmp 9) (.tmp 46) rfl rfl rfl rfl HB.out.2.1 h31.out (info30.trans (congrArg some h31.out.symm)) HB.out.2.2 ?_; rw [hw2]) | fail)
        refine ka.mono ?_
        rintro r w3 ⟨rfl, hb3⟩
        clear ka hw2
        go_wp2
        go_ret
        exact ⟨rfl, HB.out.1.trans (hb3.mono HB.out.1.size)⟩
      · have e3 : X.2.2 = 0 ∧ (X.1.wh []).k ≠ 0 := by
          have := HO.out
          rw [if_neg h24] at this
          simpa using this
        rw [e3.1]
        have t15 : ¬ (R.wh.k = 0) := by
          rw [t1]
          have := e3.2
          omega
        have t15b : (R.wh.k != 0) = true := by simpa using t15
        have h24' : ¬ (24 : Int) < (i : Int) + 1 := by omega
        have hwr : wrap64 ((i : Int) + 1) = (i : Int) + 1 := by unfold wrap64; omega
        clear kp hx hb1 ra r2 hb2 hx2 hd hA hB2 t1 e3 h24 hoe
        go_wp2_with (first | (refine wpList_put rfl 30 (.tmp 9) (.tmp 46) rfl rfl rfl rfl HB.out.2.1 h31.out (info30.trans (congrArg some h31.out.symm)) HB.out.2.2 ?_; rw [hw2]) | fail)
        refine ka.mono ?_
        rintro r w3 ⟨rfl, hb3⟩
        have q15' := (cell_later hb3 lx).trans q15
        clear ka hw2 q15
        go_wp2
        go_ret
        exact ⟨rfl, HB.out.1.trans (hb3.mono HB.out.1.size)⟩
set_option maxRecDepth 100000 in
set_option maxHeartbeats 8000000 in
theorem deep_2 (a0 a1 : Int) (w : World) (he : Ev w) (hq : bits .and .i64 a1 3 = 2) : Calls Tryz.prog 5 #[.int .i64 a0, .int .i64 a1] w fun r w' => r = .returned (.bool true) ∧ Below w.heap.size w w' := by
  obtain ⟨k, hk6, hk⟩ : ∃ k : Nat, k < 64 ∧ bits .and .i64 a0 63 = (k : Int) := ⟨(a0 % 64).toNat, by omega, by rw [and_63]; omega⟩
  have kp := parse_text ⟨(dText 2 k).toArray⟩ (text_size 2 k hk6) w he
  have e0 : (⟨(dText 2 k).toArray⟩ : ByteArray).data.toList = dText 2 k := rfl
  rw [e0] at kp
  have ho := d_ok 2 k (by decide) hk6
  unfold dOk at ho
  obtain ⟨X, hX⟩ : ∃ X, parF (dText 2 k) = X := ⟨_, rfl⟩
  rw [hX] at kp ho
  have HT : Hid ((⟨#[68, 69, 76, 69, 84, 69, 32, 70, 82, 79, 77, 32, 116, 32, 87, 72, 69, 82, 69, 32]⟩ : ByteArray) ++ oB 2 k ++ ⟨#[97]⟩ ++ eB 2 k = ⟨(dText 2 k).toArray⟩) := text_d 2 k
  obtain ⟨D, hD⟩ : ∃ D : ByteArray, ⟨(dText 2 k).toArray⟩ = D := ⟨_, rfl⟩
  rw [hD] at kp HT
  have HE : Hid (Ev w) := he
  have HO : Hid ((if 24 < k + 1 then X.2.2 == 3 else X.2.2 == 0 && (X.1.wh []).k != 0) = true) := ho
  have m1 := fun i => oB_more 2 i
  have m2 := fun i => eB_more 2 i
  simp only [oC, eC] at m1 m2
  have m1' : ∀ i, oB 2 i ++ ⟨#[91]⟩ = oB 2 (i + 1) := m1
  have z1 : oB 2 0 = ⟨#[]⟩ := rfl
  have z2 : eB 2 0 = ⟨#[]⟩ := rfl
  have m2' : ∀ i, (⟨#[93]⟩ : ByteArray) ++ eB 2 i = eB 2 (i + 1) := m2
  have HM : Hid ((∀ i, oB 2 i ++ ⟨#[91]⟩ = oB 2 (i + 1)) ∧ ∀ i, (⟨#[93]⟩ : ByteArray) ++ eB 2 i = eB 2 (i + 1)) := ⟨m1', m2'⟩
  clear hX ho he e0 hD m1 m2 m1' m2' z1 z2
  go_enter Tryz.func5, Tryz.ntmps5
  go_wp2_with fail
  go_loopw [6, 7, 8] (fun c6 c7 c8 wr => ∃ i : Nat, i ≤ k ∧ c8 = .int .i64 (i : Int) ∧ (∃ o e : ByteArray, c6 = .string o ∧ c7 = .string e ∧ Hid (o = oB 2 i ∧ e = eB 2 i)) ∧ wr = w) (fun _ _ c8 _ => k - (intOf c8).toNat)
  case atStart =>
    have hh : (⟨#[]⟩ : ByteArray) = oB 2 0 ∧ (⟨#[]⟩ : ByteArray) = eB 2 0 := ⟨rfl, rfl⟩
    exact ⟨0, Nat.zero_le _, rfl, ⟨_, _, rfl, rfl, hh⟩, rfl⟩
  case round =>
    obtain ⟨i, hi, rfl, ⟨o, e, rfl, rfl, hoe⟩, hwr0⟩ := hrel
    have hwr1 := hwr0.symm
    clear hwr0
    subst hwr1
    have so : o.size ≤ 300 := by
      rw [hoe.out.1, Lib.size_eq]
      have := dO_len 2 i
      show (dO 2 i).length ≤ 300
      omega
    have se : e.size ≤ 300 := by
      rw [hoe.out.2, Lib.size_eq]
      have := dE_len 2 i
      show (dE 2 i).length ≤ 300
      omega
    by_cases hlt : i < k
    · have hlt' : (i : Int) < (k : Int) := by omega
      have n0 : ¬ ((2 : Int) = 3) := by decide
      go_wp2_with fail
      go_roundw
      case rel =>
        have hh : o ++ (⟨#[91]⟩ : ByteArray) = oB 2 (i + 1) ∧ (⟨#[93]⟩ : ByteArray) ++ e = eB 2 (i + 1) := by
          rw [hoe.out.1, hoe.out.2]
          exact ⟨HM.out.1 i, HM.out.2 i⟩
        exact ⟨i + 1, by omega, by go_num, ⟨_, _, rfl, rfl, hh⟩, by first | rfl | trivial⟩
      case measure => simp [intOf]; omega
    · obtain rfl : i = k := by omega
      have hlt' : ¬ ((i : Int) < (i : Int)) := by omega
      have hT : (⟨#[68, 69, 76, 69, 84, 69, 32, 70, 82, 79, 77, 32, 116, 32, 87, 72, 69, 82, 69, 32]⟩ : ByteArray) ++ o ++ ⟨#[97]⟩ ++ e = D := by
        rw [hoe.out.1, hoe.out.2]
        exact HT.out
      go_wp2_with fail
      refine kp.mono ?_
      rintro r w1 ⟨R, rfl, hx, hb1⟩
      obtain ⟨w2, hw2, ra, r2, hb2, hx2⟩ := box30 hx
      have hB2 := hb1.trans (hb2.mono hb1.size)
      have ka := awake_any w2 (HE.out.later hB2)
      obtain ⟨d, hd⟩ := hx2.wh
      obtain ⟨t1, -, -⟩ := hd.top
      have q15 : w2.cell? ⟨w1.heap.size, 15, none⟩ = some (.int .i64 R.wh.k) := by rw [cell_of_row w2 _ 15 _ _ _ r2]; rfl
      have lx := lt_of_row r2
      have HB : Hid (Below w.heap.size w w2 ∧ (w1.alloc (.cells #[.int .i64 0, .string ⟨#[]⟩, .string ⟨#[]⟩, .int .i64 0, .string ⟨#[]⟩, .int .i64 0, .bool false, .int .i64 0, .string ⟨#[]⟩, .slice none 0 0, .slice none 0 0, .slice none 0 0, .slice none 0 0, .slice none 0 0, .slice none 0 0, .int .i64 0, .string ⟨#[]⟩, .int .i64 0, .bool false, .int .i64 0, .string ⟨#[]⟩, .slice none 0 0, .slice none 0 0, .slice none 0 0, .slice none 0 0, .slice none 0 0, .bool false, .bool false, .string ⟨#[]⟩, .bool false, .int .i64 (0)] 30)).heap[w1.heap.size]? = some (.cells zero31 30 (0, 0)) ∧ (stA R).all (·.oneCell') = true) := ⟨hB2, ra, hx.ones⟩
      obtain ⟨A, hA⟩ : ∃ A, stA R = A := ⟨_, rfl⟩
      have h31 : Hid (A.size = 31) := by
        have h : A.size = 31 := by rw [← hA]; rfl
        exact h
      rw [hA] at HB hw2 ⊢
      by_cases h24 : 24 < i + 1
      · have e3 : X.2.2 = 3 := by
          have := HO.out
          rw [if_pos h24] at this
          simpa using this
        rw [e3]
        have h24' : (24 : Int) < (i : Int) + 1 := by omega
        have hwr : wrap64 ((i : Int) + 1) = (i : Int) + 1 := by unfold wrap64; omega
        clear kp hx hb1 ra r2 hb2 hx2 hd hA hB2 t1 q15 e3 h24 hoe
        go_wp2_with (first | (refine wpList_put rfl 30 (.tmp 9) (.tmp 46) rfl rfl rfl rfl HB.out.2.1 h31.out (info30.trans (congrArg some h31.out.symm)) HB.out.2.2 ?_; rw [hw2]) | fail)
        refine ka.mono ?_
        rintro r w3 ⟨rfl, hb3⟩
        clear ka hw2
        go_wp2
        go_ret
        exact ⟨rfl, HB.out.1.trans (hb3.mono HB.out.1.size)⟩
      · have e3 : X.2.2 = 0 ∧ (X.1.wh []).k ≠ 0 := by
          have := HO.out
          rw [if_neg h24] at this
          simpa using this
        rw [e3.1]
        have t15 : ¬ (R.wh.k = 0) := by
          rw [t1]
          have := e3.2
          omega
        have t15b : (R.wh.k != 0) = true := by simpa using t15
        have h24' : ¬ (24 : Int) < (i : Int) + 1 := by omega
        have hwr : wrap64 ((i : Int) + 1) = (i : Int) + 1 := by unfold wrap64; omega
        clear kp hx hb1 ra r2 hb2 hx2 hd hA hB2 t1 e3 h24 hoe
        go_wp2_with (first | (refine wpList_put rfl 30 (.tmp 9) (.tmp 46) rfl rfl rfl rfl HB.out.2.1 h31.out (info30.trans (congrArg some h31.out.symm)) HB.out.2.2 ?_; rw [hw2]) | fail)
        refine ka.mono ?_
        rintro r w3 ⟨rfl, hb3⟩
        have q15' := (cell_later hb3 lx).trans q15
        clear ka hw2 q15
        go_wp2
        go_ret
        exact ⟨rfl, HB.out.1.trans (hb3.mono HB.out.1.size)⟩
set_option maxRecDepth 100000 in
set_option maxHeartbeats 8000000 in
theorem deep_3 (a0 a1 : Int) (w : World) (he : Ev w) (hq : bits .and .i64 a1 3 = 3) : Calls Tryz.prog 5 #[.int .i64 a0, .int .i64 a1] w fun r w' => r = .returned (.bool true) ∧ Below w.heap.size w w' := by
  obtain ⟨k, hk6, hk⟩ : ∃ k : Nat, k < 64 ∧ bits .and .i64 a0 63 = (k : Int) := ⟨(a0 % 64).toNat, by omega, by rw [and_63]; omega⟩
  have kp := parse_text ⟨(dText 3 k).toArray⟩ (text_size 3 k hk6) w he
  have e0 : (⟨(dText 3 k).toArray⟩ : ByteArray).data.toList = dText 3 k := rfl
  rw [e0] at kp
  have ho := d_ok 3 k (by decide) hk6
  unfold dOk at ho
  obtain ⟨X, hX⟩ : ∃ X, parF (dText 3 k) = X := ⟨_, rfl⟩
  rw [hX] at kp ho
  have HT : Hid ((⟨#[68, 69, 76, 69, 84, 69, 32, 70, 82, 79, 77, 32, 116, 32, 87, 72, 69, 82, 69, 32]⟩ : ByteArray) ++ oB 3 k ++ ⟨#[97]⟩ ++ eB 3 k = ⟨(dText 3 k).toArray⟩) := text_d 3 k
  obtain ⟨D, hD⟩ : ∃ D : ByteArray, ⟨(dText 3 k).toArray⟩ = D := ⟨_, rfl⟩
  rw [hD] at kp HT
  have HE : Hid (Ev w) := he
  have HO : Hid ((if 24 < k + 1 then X.2.2 == 3 else X.2.2 == 0 && (X.1.wh []).k != 0) = true) := ho
  have m1 := fun i => oB_more 3 i
  have m2 := fun i => eB_more 3 i
  simp only [oC, eC] at m1 m2
  have m1' : ∀ i, oB 3 i ++ ⟨#[78, 79, 84, 32]⟩ = oB 3 (i + 1) := m1
  have z1 : oB 3 0 = ⟨#[]⟩ := rfl
  have z2 : eB 3 0 = ⟨#[]⟩ := rfl
  have m2' : ∀ i, eB 3 i = ⟨#[]⟩ := fun i => eB_same 3 i rfl
  have HM : Hid ((∀ i, oB 3 i ++ ⟨#[78, 79, 84, 32]⟩ = oB 3 (i + 1)) ∧ ∀ i, eB 3 i = ⟨#[]⟩) := ⟨m1', m2'⟩
  clear hX ho he e0 hD m1 m2 m1' m2' z1 z2
  go_enter Tryz.func5, Tryz.ntmps5
  go_wp2_with fail
  go_loopw [6, 7, 8] (fun c6 c7 c8 wr => ∃ i : Nat, i ≤ k ∧ c8 = .int .i64 (i : Int) ∧ (∃ o e : ByteArray, c6 = .string o ∧ c7 = .string e ∧ Hid (o = oB 3 i ∧ e = eB 3 i)) ∧ wr = w) (fun _ _ c8 _ => k - (intOf c8).toNat)
  case atStart =>
    have hh : (⟨#[]⟩ : ByteArray) = oB 3 0 ∧ (⟨#[]⟩ : ByteArray) = eB 3 0 := ⟨rfl, rfl⟩
    exact ⟨0, Nat.zero_le _, rfl, ⟨_, _, rfl, rfl, hh⟩, rfl⟩
  case round =>
    obtain ⟨i, hi, rfl, ⟨o, e, rfl, rfl, hoe⟩, hwr0⟩ := hrel
    have hwr1 := hwr0.symm
    clear hwr0
    subst hwr1
    have so : o.size ≤ 300 := by
      rw [hoe.out.1, Lib.size_eq]
      have := dO_len 3 i
      show (dO 3 i).length ≤ 300
      omega
    have se : e.size ≤ 300 := by
      rw [hoe.out.2, Lib.size_eq]
      have := dE_len 3 i
      show (dE 3 i).length ≤ 300
      omega
    by_cases hlt : i < k
    · have hlt' : (i : Int) < (k : Int) := by omega
      have n0 : ¬ ((3 : Int) = 0) := by decide
      go_wp2_with fail
      go_roundw
      case rel =>
        have hh : o ++ (⟨#[78, 79, 84, 32]⟩ : ByteArray) = oB 3 (i + 1) ∧ e = eB 3 (i + 1) := by
          refine ⟨by rw [hoe.out.1]; exact HM.out.1 i, ?_⟩
          rw [hoe.out.2, HM.out.2 i, HM.out.2 (i + 1)]
        exact ⟨i + 1, by omega, by go_num, ⟨_, _, rfl, rfl, hh⟩, by first | rfl | trivial⟩
      case measure => simp [intOf]; omega
    · obtain rfl : i = k := by omega
      have hlt' : ¬ ((i : Int) < (i : Int)) := by omega
      have hT : (⟨#[68, 69, 76, 69, 84, 69, 32, 70, 82, 79, 77, 32, 116, 32, 87, 72, 69, 82, 69, 32]⟩ : ByteArray) ++ o ++ ⟨#[97]⟩ ++ e = D := by
        rw [hoe.out.1, hoe.out.2]
        exact HT.out
      go_wp2_with fail
      refine kp.mono ?_
      rintro r w1 ⟨R, rfl, hx, hb1⟩
      obtain ⟨w2, hw2, ra, r2, hb2, hx2⟩ := box30 hx
      have hB2 := hb1.trans (hb2.mono hb1.size)
      have ka := awake_any w2 (HE.out.later hB2)
      obtain ⟨d, hd⟩ := hx2.wh
      obtain ⟨t1, -, -⟩ := hd.top
      have q15 : w2.cell? ⟨w1.heap.size, 15, none⟩ = some (.int .i64 R.wh.k) := by rw [cell_of_row w2 _ 15 _ _ _ r2]; rfl
      have lx := lt_of_row r2
      have HB : Hid (Below w.heap.size w w2 ∧ (w1.alloc (.cells #[.int .i64 0, .string ⟨#[]⟩, .string ⟨#[]⟩, .int .i64 0, .string ⟨#[]⟩, .int .i64 0, .bool false, .int .i64 0, .string ⟨#[]⟩, .slice none 0 0, .slice none 0 0, .slice none 0 0, .slice none 0 0, .slice none 0 0, .slice none 0 0, .int .i64 0, .string ⟨#[]⟩, .int .i64 0, .bool false, .int .i64 0, .string ⟨#[]⟩, .slice none 0 0, .slice none 0 0, .slice none 0 0, .slice none 0 0, .slice none 0 0, .bool false, .bool false, .string ⟨#[]⟩, .bool false, .int .i64 (0)] 30)).heap[w1.heap.size]? = some (.cells zero31 30 (0, 0)) ∧ (stA R).all (·.oneCell') = true) := ⟨hB2, ra, hx.ones⟩
      obtain ⟨A, hA⟩ : ∃ A, stA R = A := ⟨_, rfl⟩
      have h31 : Hid (A.size = 31) := by
        have h : A.size = 31 := by rw [← hA]; rfl
        exact h
      rw [hA] at HB hw2 ⊢
      by_cases h24 : 24 < i + 1
      · have e3 : X.2.2 = 3 := by
          have := HO.out
          rw [if_pos h24] at this
          simpa using this
        rw [e3]
        have h24' : (24 : Int) < (i : Int) + 1 := by omega
        have hwr : wrap64 ((i : Int) + 1) = (i : Int) + 1 := by unfold wrap64; omega
        clear kp hx hb1 ra r2 hb2 hx2 hd hA hB2 t1 q15 e3 h24 hoe
        go_wp2_with (first | (refine wpList_put rfl 30 (.tmp 9) (.tmp 46) rfl rfl rfl rfl HB.out.2.1 h31.out (info30.trans (congrArg some h31.out.symm)) HB.out.2.2 ?_; rw [hw2]) | fail)
        refine ka.mono ?_
        rintro r w3 ⟨rfl, hb3⟩
        clear ka hw2
        go_wp2
        go_ret
        exact ⟨rfl, HB.out.1.trans (hb3.mono HB.out.1.size)⟩
      · have e3 : X.2.2 = 0 ∧ (X.1.wh []).k ≠ 0 := by
          have := HO.out
          rw [if_neg h24] at this
          simpa using this
        rw [e3.1]
        have t15 : ¬ (R.wh.k = 0) := by
          rw [t1]
          have := e3.2
          omega
        have t15b : (R.wh.k != 0) = true := by simpa using t15
        have h24' : ¬ (24 : Int) < (i : Int) + 1 := by omega
        have hwr : wrap64 ((i : Int) + 1) = (i : Int) + 1 := by unfold wrap64; omega
        clear kp hx hb1 ra r2 hb2 hx2 hd hA hB2 t1 e3 h24 hoe
        go_wp2_with (first | (refine wpList_put rfl 30 (.tmp 9) (.tmp 46) rfl rfl rfl rfl HB.out.2.1 h31.out (info30.trans (congrArg some h31.out.symm)) HB.out.2.2 ?_; rw [hw2]) | fail)
        refine ka.mono ?_
        rintro r w3 ⟨rfl, hb3⟩
        have q15' := (cell_later hb3 lx).trans q15
        clear ka hw2 q15
        go_wp2
        go_ret
        exact ⟨rfl, HB.out.1.trans (hb3.mono HB.out.1.size)⟩
theorem deep_walk (a0 a1 : Int) (w : World) (he : Ev w) : Calls Tryz.prog 5 #[.int .i64 a0, .int .i64 a1] w fun r w' => r = .returned (.bool true) ∧ Below w.heap.size w w' := by
  have h := and_3 a1
  rcases (by omega : a1 % 4 = 0 ∨ a1 % 4 = 1 ∨ a1 % 4 = 2 ∨ a1 % 4 = 3) with e | e | e | e
  · exact deep_0 a0 a1 w he (by rw [h, e])
  · exact deep_1 a0 a1 w he (by rw [h, e])
  · exact deep_2 a0 a1 w he (by rw [h, e])
  · exact deep_3 a0 a1 w he (by rw [h, e])
end Go.Proofs.YthgagldpjledgaaGreatDoor
