/- The document's small calls: class, half, quoted. -/
import Derived.Test.YticmoapmolmcjaaDoorWo
namespace Go.Proofs.YticmoapmolmcjaaDoor
open Go.RowKit Go.Shelf
def classI (x : Int) : Int := if (inNameB x && !digitB x) = true then 1 else if digitB x = true then 2 else if blankB x = true then 3 else 0
theorem class_cases (x : Int) : classI x = if (x = 95 ∨ (65 ≤ x ∧ x ≤ 90)) ∨ (97 ≤ x ∧ x ≤ 122) then 1 else if 48 ≤ x ∧ x ≤ 57 then 2 else if (x = 32 ∨ x = 9) ∨ x = 10 then 3 else 0 := by
  unfold classI inNameB letB digitB blankB
  by_cases h1 : (x = 95 ∨ (65 ≤ x ∧ x ≤ 90)) ∨ (97 ≤ x ∧ x ≤ 122)
  · rw [if_pos h1, if_pos]
    simp
    omega
  · rw [if_neg h1, if_neg]
    · by_cases h2 : 48 ≤ x ∧ x ≤ 57
      · rw [if_pos h2, if_pos]
        simp
        omega
      · rw [if_neg h2, if_neg]
        · by_cases h3 : (x = 32 ∨ x = 9) ∨ x = 10
          · rw [if_pos h3, if_pos]
            simp
            omega
          · rw [if_neg h3, if_neg]
            simp
            omega
        · simp
          omega
    · simp
      omega
set_option maxRecDepth 20000 in
set_option maxHeartbeats 4000000 in
theorem class_any (x : Int) (w : World) : Calls Tryd.prog 17 #[.int .u8 x] w fun e w' => e = .returned (.int .i64 (classI x)) ∧ w' = w := by
  obtain ⟨F, hF⟩ : ∃ F, classI x = F := ⟨_, rfl⟩
  rw [hF]
  rw [class_cases] at hF
  have HF : Hid (_ = F) := hF
  clear hF
  go_enter Tryd.func17, Tryd.ntmps17
  go_wp2
  all_goals
    go_ret
    refine ⟨?_, rfl⟩
    have h := HF.out
    rw [← h]
    simp_all
  all_goals (rw [← h]; (repeat' split) <;> omega)
set_option maxRecDepth 20000 in
set_option maxHeartbeats 4000000 in
theorem half_any (c : UInt8) (x : Int) (hx : x = (c.toNat : Int)) (w : World) : Calls Tryd.prog 36 #[.int .u8 x] w fun e w' => e = .returned (.int .i64 (hexV c : Int)) ∧ w' = w := by
  have hb := UInt8.toNat_lt c
  obtain ⟨F, hF⟩ : ∃ F, (hexV c : Int) = F := ⟨_, rfl⟩
  rw [hF]
  have hF2 : F = if 48 ≤ x ∧ x ≤ 57 then x - 48 else if 97 ≤ x ∧ x ≤ 102 then x - 87 else 16 := by
    rw [← hF, hx]
    unfold hexV
    by_cases h1 : 48 ≤ c.toNat ∧ c.toNat ≤ 57
    · rw [if_pos h1, if_pos (by omega)]; omega
    · rw [if_neg h1, if_neg (show ¬ (48 ≤ (c.toNat : Int) ∧ (c.toNat : Int) ≤ 57) by omega)]
      by_cases h2 : 97 ≤ c.toNat ∧ c.toNat ≤ 102
      · rw [if_pos h2, if_pos (by omega)]; omega
      · rw [if_neg h2, if_neg (by omega)]
        rfl
  have h0 : 0 ≤ x := by omega
  have h1 : x < 256 := by omega
  have HF : Hid (F = _) := hF2
  clear hF hF2 hb hx
  go_enter Tryd.func36, Tryd.ntmps36
  go_wp2
  all_goals
    go_ret
    refine ⟨?_, rfl⟩
    rw [HF.out]
    simp_all
  all_goals ((repeat' split) <;> omega)
/- What is known in the round of the document's quoted. -/
structure RI (s : ByteArray) (b i : Nat) (l : List UInt8) : Prop where
  one : b ≤ i
  le : l.length ≤ i
  all : qL (s.data.toList.drop b) = (qL (s.data.toList.drop i)).map (fun x => (l ++ x.1, x.2 + (i - b)))
def rT (b : Nat) (x : Option (List UInt8 × Nat)) : ByteArray × Nat := match x with
  | none => (⟨#[]⟩, 0)
  | some y => (⟨y.1.toArray⟩, b + y.2)
theorem RI.start (s : ByteArray) (b : Nat) : RI s b b [] := ⟨Nat.le_refl _, Nat.zero_le _, by cases qL (s.data.toList.drop b) <;> simp⟩
theorem RI.other {s : ByteArray} {b i : Nat} {l : List UInt8} {c : UInt8} (h : RI s b i l) (hc : s.data.toList[i]? = some c) (h39 : c ≠ 39) : RI s b (i + 1) (l ++ [c]) := by
  have h1 := h.one
  refine ⟨by omega, by have := h.le; simp; omega, ?_⟩
  rw [h.all, drop_at hc, qL_other h39]
  cases qL (s.data.toList.drop (i + 1)) with
  | none => rfl
  | some x => simp; omega
theorem RI.two {s : ByteArray} {b i : Nat} {l : List UInt8} (h : RI s b i l) (hc : s.data.toList[i]? = some 39) (hd : s.data.toList[i + 1]? = some 39) : RI s b (i + 1 + 1) (l ++ [39]) := by
  have h1 := h.one
  refine ⟨by omega, by have := h.le; simp; omega, ?_⟩
  rw [h.all, drop_at hc, drop_at hd, qL_two]
  cases qL (s.data.toList.drop (i + 1 + 1)) with
  | none => rfl
  | some x => simp; omega
theorem RI.done {s : ByteArray} {b i : Nat} {l : List UInt8} (h : RI s b i l) (hc : s.data.toList[i]? = some 39) (hd : s.data.toList[i + 1]? ≠ some 39) : rT b (qL (s.data.toList.drop b)) = (⟨l.toArray⟩, i + 1) := by
  have h1 := h.one
  rw [h.all, drop_at hc, qL_end (by rw [List.getElem?_drop]; exact hd)]
  simp [rT]
  omega
theorem RI.none {s : ByteArray} {b i : Nat} {l : List UInt8} (h : RI s b i l) (hc : s.data.toList.length ≤ i) : rT b (qL (s.data.toList.drop b)) = (⟨#[]⟩, 0) := by
  rw [h.all, List.drop_eq_nil_of_le hc]
  rfl
theorem rba_app (l m : List UInt8) : (⟨l.toArray⟩ ++ ⟨m.toArray⟩ : ByteArray) = ⟨(l ++ m).toArray⟩ := by
  apply ba_eq
  rw [ByteArray.data_append]
  simp
theorem rext_one {t : ByteArray} {i : Nat} {c : UInt8} (hc : t.data.toList[i]? = some c) : t.extract i (i + 1) = ⟨#[c]⟩ := by
  have : (t.extract i (i + 1)).data.toList = [c] := by
    rw [ext_list, drop_at hc, Nat.add_sub_cancel_left]
    rfl
  exact ba_eq this
set_option maxRecDepth 20000 in
set_option maxHeartbeats 4000000 in
theorem rquoted_any (s : ByteArray) (hs : s.size ≤ 10000) (a : Nat) (ha : a ≤ s.size) (w : World) :
    Calls Tryd.prog 27 #[.string s, .int .i64 (a : Int)] w fun e w' => e = .returned (.tuple #[.string (rT (a + 1) (qL (s.data.toList.drop (a + 1)))).1, .int .i64 ((rT (a + 1) (qL (s.data.toList.drop (a + 1)))).2 : Int)]) ∧ w' = w := by
  obtain ⟨F, hF⟩ : ∃ F, rT (a + 1) (qL (s.data.toList.drop (a + 1))) = F := ⟨_, rfl⟩
  rw [hF]
  have HF : Hid (rT (a + 1) (qL (s.data.toList.drop (a + 1))) = F) := hF
  clear hF
  have hl := Lib.size_eq s
  have HL : Hid (s.size = s.data.toList.length) := hl
  clear hl
  go_enter Tryd.func27, Tryd.ntmps27
  go_wp2
  go_loopw [6, 7] (fun c6 c7 wr => ∃ (i : Nat) (l : List UInt8), i ≤ s.size + 1 ∧ l.length ≤ 10001 ∧ c6 = .string ⟨l.toArray⟩ ∧ c7 = .int .i64 (i : Int) ∧ Hid (RI s (a + 1) i l) ∧ wr = w) (fun _ c7 _ => s.size + 1 - (intOf c7).toNat)
  case atStart => exact ⟨a + 1, [], by omega, by simp, rfl, by simp, RI.start s (a + 1), rfl⟩
  case round =>
    obtain ⟨i, l, hi, hll, rfl, rfl, hq, hw⟩ := hrel
    have hw' := hw.symm
    subst hw'
    clear hw
    have hone : a + 1 ≤ i := hq.out.one
    have hle : l.length ≤ i := hq.out.le
    by_cases hlt : i < s.size
    · have hlt' : (i : Int) < (s.size : Int) := by omega
      have hle1 : (i : Int) + 1 ≤ (s.size : Int) := by omega
      obtain ⟨c, hc, he⟩ := at_chr hlt
      have HC : Hid (s.data.toList[i]? = some c) := hc
      have hce : ((s[i].toNat : Nat) : Int) = (c.toNat : Int) := by rw [chr_eq s i hlt, he]
      have hx1 := rext_one hc
      clear he hc
      by_cases h39 : c = 39
      · have h39' : ((c.toNat : Nat) : Int) = 39 := by rw [h39]; rfl
        have HE : Hid (c = 39) := h39
        clear h39
        by_cases hlast : i + 1 < s.size
        · have hlast' : (i : Int) + 1 < (s.size : Int) := by omega
          obtain ⟨d, hd, hed⟩ := at_chr hlast
          have HD : Hid (s.data.toList[i + 1]? = some d) := hd
          have hde : ((s[i + 1].toNat : Nat) : Int) = (d.toNat : Int) := by rw [chr_eq s (i + 1) hlast, hed]
          clear hed hd
          by_cases hd39 : d = 39
          · have hd39' : ((d.toNat : Nat) : Int) = 39 := by rw [hd39]; rfl
            have HE2 : Hid (d = 39) := hd39
            have HAP : Hid ((⟨l.toArray⟩ ++ ⟨#[39]⟩ : ByteArray) = ⟨(l ++ [39]).toArray⟩) := rba_app l [39]
            clear hd39
            go_wp2
            refine ⟨⟨i + 1 + 1, l ++ [39], by omega, by simp; omega, by rw [HAP.out], by go_num, hq.out.two (by rw [HC.out, HE.out]) (by rw [HD.out, HE2.out]), trivial⟩, ?_⟩
            simp [intOf]
            omega
          · have hd39' : ¬ ((d.toNat : Nat) : Int) = 39 := fun e => hd39 (byte_of e (by decide))
            have HE2 : Hid (d ≠ 39) := hd39
            clear hd39
            go_wp2
            go_ret2
            refine ⟨?_, rfl⟩
            rw [← HF.out, hq.out.done (by rw [HC.out, HE.out]) (by rw [HD.out]; exact fun e => HE2.out (Option.some.inj e))]
            simp
        · have hlast' : ¬ (i : Int) + 1 < (s.size : Int) := by omega
          go_wp2
          go_ret2
          refine ⟨?_, rfl⟩
          rw [← HF.out, hq.out.done (by rw [HC.out, HE.out]) (by rw [List.getElem?_eq_none (by have := HL.out; omega)]; simp)]
          simp
      · have h39' : ¬ ((c.toNat : Nat) : Int) = 39 := fun e => h39 (byte_of e (by decide))
        have HE : Hid (c ≠ 39) := h39
        have HAP : Hid ((⟨l.toArray⟩ ++ ⟨#[c]⟩ : ByteArray) = ⟨(l ++ [c]).toArray⟩) := rba_app l [c]
        clear h39
        go_wp2
        refine ⟨⟨i + 1, l ++ [c], by omega, by simp; omega, by rw [HAP.out], by go_num, hq.out.other HC.out HE.out, trivial⟩, ?_⟩
        simp [intOf]
        omega
    · have hlt' : ¬ (i : Int) < (s.size : Int) := by omega
      go_wp2
      go_ret2
      refine ⟨?_, rfl⟩
      rw [← HF.out, hq.out.none (by have := HL.out; omega)]
      rfl
end Go.Proofs.YticmoapmolmcjaaDoor
