/- The document's word, where it is a number or a sign. -/
import Derived.Test.YticmoapmolmcjaaDoorRx
namespace Go.Proofs.YticmoapmolmcjaaDoor
open Go.RowKit Go.Shelf
theorem sign_two {l : List UInt8} {a : Nat} {c : UInt8} (hc : l[a]? = some c) (hb : l[a + 1]? = none) : twoB (l.drop a) = false := by
  have h : ∀ x y : UInt8, [x, y].isPrefixOf (l.drop a) = false := fun x y => by
    rw [Bool.eq_false_iff, ne_eq, pre2_at x y hc, hb]
    simp
  unfold twoB
  rw [h, h, h]
  rfl
theorem two_ext {s : ByteArray} {a : Nat} {c d : UInt8} (hc : s.data.toList[a]? = some c) (hd : s.data.toList[a + 1]? = some d) (x y : UInt8) : ((s.extract a (a + 2)).toList == [x, y]) = [x, y].isPrefixOf (s.data.toList.drop a) := by
  rw [Lib.toList_data, ext_list, Nat.add_sub_cancel_left, Bool.eq_iff_iff, pre2_at x y hc, drop_at hc, drop_at hd, beq_iff_eq, hd]
  simp
set_option maxRecDepth 20000 in
set_option maxHeartbeats 16000000 in
theorem rword_sign (s : ByteArray) (hs : s.size ≤ 10000) (a : Nat) (hlt : a < s.size) (c : UInt8) (hc : s.data.toList[a]? = some c) (hin : (inNameB (c.toNat : Int) && !digitB (c.toNat : Int)) = false) (hdg : digitB (c.toNat : Int) = false) (hq39 : c ≠ 39) (w : World) :
    Calls Tryd.prog 18 #[.string s, .int .i64 (a : Int)] w fun e w' => RW a (signA (s.data.toList.drop a)) e ∧ Below w.heap.size w w' := by
  have hlt' : (a : Int) < (s.size : Int) := by omega
  have hce : ((s[a].toNat : Nat) : Int) = (c.toNat : Int) := by rw [chr_eq s a hlt, chr_at hc]
  have hcl := class_any (c.toNat : Int)
  have hls := Lib.size_eq s
  have HLS : Hid (s.size = s.data.toList.length) := hls
  clear hls
  have h39 : ¬ ((c.toNat : Nat) : Int) = 39 := fun e => hq39 (byte_of e (by decide))
  have h120 : ¬ ((c.toNat : Nat) : Int) = 120 := by
    intro e
    rw [e] at hin
    exact absurd hin (by decide)
  obtain ⟨y, hy, hy1, hy2⟩ : ∃ y, classI (c.toNat : Int) = y ∧ ¬ y = 1 ∧ ¬ y = 2 := by
    refine ⟨_, rfl, ?_, ?_⟩ <;> (unfold classI; rw [hin, hdg]; simp; split <;> decide)
  rw [hy] at hcl
  have hx1 : (s.extract a (a + 1)) = ⟨((s.data.toList.drop a).take 1).toArray⟩ := ba_eq (by rw [ext_list, Nat.add_sub_cancel_left])
  have hx2 : (s.extract a (a + 2)) = ⟨((s.data.toList.drop a).take 2).toArray⟩ := ba_eq (by rw [ext_list, Nat.add_sub_cancel_left])
  obtain ⟨PO, hPO⟩ : ∃ PO, PO = fun e => RW a (signA (s.data.toList.drop a)) e := ⟨_, rfl⟩
  have hPe : ∀ e, RW a (signA (s.data.toList.drop a)) e = PO e := fun e => by rw [hPO]
  have hsn : signN (s.data.toList.drop a) = if twoB (s.data.toList.drop a) = true then 2 else if signsL.contains c = true then 1 else 0 := by
    rw [drop_at hc]
    rfl
  have HT2 : Hid (twoB (s.data.toList.drop a) = true → PO (.returned (.tuple #[.agg #[.int .i64 6, .string (s.extract a (a + 2)), .int .i64 (a : Int)], .int .i64 ((a : Int) + 2)]))) := by
    have h : twoB (s.data.toList.drop a) = true → PO (.returned (.tuple #[.agg #[.int .i64 6, .string (s.extract a (a + 2)), .int .i64 (a : Int)], .int .i64 ((a : Int) + 2)])) := fun h => by
      rw [← hPe]
      unfold signA
      rw [if_pos h] at hsn
      rw [hsn, if_neg (by decide)]
      exact RW.some (k := 6) hx2 (by omega)
    exact h
  have hV1 : twoB (s.data.toList.drop a) = false → signsL.contains c = true → PO (.returned (.tuple #[.agg #[.int .i64 6, .string (s.extract a (a + 1)), .int .i64 (a : Int)], .int .i64 ((a : Int) + 1)])) := fun h h2 => by
    rw [← hPe]
    unfold signA
    have hsn1 : signN (s.data.toList.drop a) = 1 := by rw [hsn, h, h2]; rfl
    rw [hsn1, if_neg (by decide)]
    exact RW.some (k := 6) hx1 (by omega)
  have hV0 : twoB (s.data.toList.drop a) = false → signsL.contains c = false → PO (.returned (.tuple #[.agg #[.int .i64 0, .string ⟨#[]⟩, .int .i64 0], .int .i64 0])) := fun h h2 => by
    rw [← hPe]
    unfold signA
    have hsn1 : signN (s.data.toList.drop a) = 0 := by rw [hsn, h, h2]; rfl
    rw [hsn1, if_pos rfl]
    exact RW.none a 0 _ 0
  have HVV1 : Hid (twoB (s.data.toList.drop a) = false → signsL.contains c = true → PO (.returned (.tuple #[.agg #[.int .i64 6, .string (s.extract a (a + 1)), .int .i64 (a : Int)], .int .i64 ((a : Int) + 1)]))) := hV1
  have HVV0 : Hid (twoB (s.data.toList.drop a) = false → signsL.contains c = false → PO (.returned (.tuple #[.agg #[.int .i64 0, .string ⟨#[]⟩, .int .i64 0], .int .i64 0]))) := hV0
  have hle1 : (a : Int) + 1 ≤ (s.size : Int) := by omega
  simp only [hPe]
  clear hPO hPe hsn hx1 hx2 hV1 hV0 hin hdg hq39 hy
  go_enter Tryd.func18, Tryd.ntmps18
  go_wp2_with fail
  refine (hcl _).mono ?_
  rintro e w2 ⟨rfl, rfl⟩
  obtain ⟨w1, hw1⟩ : ∃ w1, w1 = w.alloc (.cells #[.int .i64 0, .string ⟨#[]⟩, .int .i64 0] 32) := ⟨_, rfl⟩
  have hz : Z3 w1 w.heap.size 32 := by rw [hw1]; exact Z3.new w 32
  have hB : Below w.heap.size w w1 := by rw [hw1]; exact (Below.refl _ w).alloc (Nat.le_refl _) _
  rw [← hw1]
  clear hw1
  go_wp2_with fail
  refine (hcl _).mono ?_
  rintro e w2 ⟨rfl, hw2⟩
  have hw2' := hw2.symm
  subst hw2'
  clear hw2
  have f0 := frozen_of_row w1 _ 0 _ _ hz
  have f1 := frozen_of_row w1 _ 1 _ _ hz
  have f2 := frozen_of_row w1 _ 2 _ _ hz
  have c0 := cell_of_row w1 _ 0 _ _ _ hz
  have c1 := cell_of_row w1 _ 1 _ _ _ hz
  have c2 := cell_of_row w1 _ 2 _ _ _ hz
  by_cases h2 : a + 1 < s.size
  · have h2' : (a : Int) + 2 ≤ (s.size : Int) := by omega
    obtain ⟨d, hd, _⟩ := at_chr h2
    have e1 := two_ext hc hd 60 62
    have e2 := two_ext hc hd 60 61
    have e3 := two_ext hc hd 62 61
    have htw : twoB (s.data.toList.drop a) = ([60, 62].isPrefixOf (s.data.toList.drop a) || [60, 61].isPrefixOf (s.data.toList.drop a) || [62, 61].isPrefixOf (s.data.toList.drop a)) := rfl
    obtain ⟨T, hTe⟩ : ∃ T, s.extract a (a + 2) = T := ⟨_, rfl⟩
    rw [hTe] at e1 e2 e3 HT2
    have hTm : ∀ l : List UInt8, (T.toList == l) = true → T.toList = l := fun l h => by simpa using h
    cases hb1 : [60, 62].isPrefixOf (s.data.toList.drop a) with
    | true =>
      rw [hb1] at e1 htw
      have HV : Hid (PO _) := HT2.out (by rw [htw]; rfl)
      clear hb1 htw e2 e3 HT2 HVV1 HVV0 hd hTm
      go_wp2
      exact bodyPost_ret (results_row_tmp Tryd.results18 _ _ w.heap.size 32 _ (0, 0) _ rfl (set3_row hz _ _ _) Tryd.underlying32 rfl (by kernel_rfl)) rfl ⟨HV.out, set3_below hB _ (Nat.le_refl _) _ _ _⟩
    | false =>
      cases hb2 : [60, 61].isPrefixOf (s.data.toList.drop a) with
      | true =>
        rw [hb1] at e1 htw
        rw [hb2] at e2 htw
        have HV : Hid (PO _) := HT2.out (by rw [htw]; rfl)
        clear hb1 hb2 htw e3 HT2 HVV1 HVV0 hd hTm
        go_wp2
        exact bodyPost_ret (results_row_tmp Tryd.results18 _ _ w.heap.size 32 _ (0, 0) _ rfl (set3_row hz _ _ _) Tryd.underlying32 rfl (by kernel_rfl)) rfl ⟨HV.out, set3_below hB _ (Nat.le_refl _) _ _ _⟩
      | false =>
        cases hb3 : [62, 61].isPrefixOf (s.data.toList.drop a) with
        | true =>
          rw [hb1] at e1 htw
          rw [hb2] at e2 htw
          rw [hb3] at e3 htw
          have HV : Hid (PO _) := HT2.out (by rw [htw]; rfl)
          clear hb1 hb2 hb3 htw HT2 HVV1 HVV0 hd hTm
          go_wp2
          exact bodyPost_ret (results_row_tmp Tryd.results18 _ _ w.heap.size 32 _ (0, 0) _ rfl (set3_row hz _ _ _) Tryd.underlying32 rfl (by kernel_rfl)) rfl ⟨HV.out, set3_below hB _ (Nat.le_refl _) _ _ _⟩
        | false =>
          rw [hb1] at e1 htw
          rw [hb2] at e2 htw
          rw [hb3] at e3 htw
          have HV1 : Hid (signsL.contains c = true → PO _) := HVV1.out (by rw [htw]; rfl)
          have HV0 : Hid (signsL.contains c = false → PO _) := HVV0.out (by rw [htw]; rfl)
          clear hb1 hb2 hb3 htw HT2 HVV1 HVV0 hd hTm
          go_wp2
          go_loopw [17] (fun c17 wr => ∃ i : Nat, i ≤ 15 ∧ c17 = .int .i64 (i : Int) ∧ Hid (∀ j, j < i → signsL[j]? ≠ some c) ∧ wr = w1) (fun c17 _ => 15 - (intOf c17).toNat)
          case atStart =>
            have h : ∀ j, j < 0 → signsL[j]? ≠ some c := fun j h => absurd h (Nat.not_lt_zero _)
            exact ⟨0, by omega, rfl, h, rfl⟩
          case round =>
            obtain ⟨i, hi, rfl, hj, hw⟩ := hrel
            have hw' := hw.symm
            subst hw'
            clear hw
            by_cases hi15 : i < 15
            · have hi15' : (i : Int) < 15 := by omega
              have hsz15 : i < (⟨#[61, 60, 62, 43, 45, 42, 40, 41, 123, 125, 91, 93, 44, 58, 46]⟩ : ByteArray).size := hi15
              obtain ⟨x, hx, hex⟩ := at_chr hsz15
              have hxe : (((⟨#[61, 60, 62, 43, 45, 42, 40, 41, 123, 125, 91, 93, 44, 58, 46]⟩ : ByteArray)[i].toNat : Nat) : Int) = (x.toNat : Int) := by rw [chr_eq _ i hsz15, hex]
              have HXE : Hid (signsL[i]? = some x) := hx
              clear hx hex
              by_cases hxc : x = c
              · have hxc' : ((x.toNat : Nat) : Int) = (c.toNat : Int) := by rw [hxc]
                have hcon : signsL.contains c = true := by
                  rw [List.contains_iff_mem, ← hxc]
                  exact List.mem_of_getElem? HXE.out
                have hV := HV1.out hcon
                have HV : Hid (PO _) := hV
                have hxe2 : (((⟨#[61, 60, 62, 43, 45, 42, 40, 41, 123, 125, 91, 93, 44, 58, 46]⟩ : ByteArray)[i].toNat : Nat) : Int) = (c.toNat : Int) := by rw [hxe, hxc']
                clear hxc hcon hV hxe hxc'
                go_wp2
                exact bodyPost_ret (results_row_tmp Tryd.results18 _ _ w.heap.size 32 _ (0, 0) _ rfl (set3_row hz _ _ _) Tryd.underlying32 rfl (by kernel_rfl)) rfl ⟨HV.out, set3_below hB _ (Nat.le_refl _) _ _ _⟩
              · have hxc' : ¬ ((x.toNat : Nat) : Int) = (c.toNat : Int) := fun e => hxc (UInt8.toNat_inj.1 (by omega))
                go_wp2
                refine ⟨⟨i + 1, by omega, by go_num, ?_, trivial⟩, ?_⟩
                · have h : ∀ j, j < i + 1 → signsL[j]? ≠ some c := fun j h1 => by
                    rcases Nat.lt_or_ge j i with k | k
                    · exact hj.out j k
                    · obtain rfl : j = i := by omega
                      rw [HXE.out]
                      exact fun e => hxc (Option.some.inj e)
                  exact h
                · simp [intOf]
                  omega
            · have hi15' : ¬ (i : Int) < 15 := by omega
              have hcon : signsL.contains c = false := by
                rw [Bool.eq_false_iff, ne_eq, List.contains_iff_mem]
                intro hm
                obtain ⟨j, hjl, hje⟩ := List.mem_iff_getElem.1 hm
                have hjl' : j < 15 := hjl
                exact hj.out j (by omega) (by rw [List.getElem?_eq_getElem hjl, hje])
              have hV := HV0.out hcon
              have HV : Hid (PO _) := hV
              clear hcon hV
              go_wp2
              exact bodyPost_ret (results_row_tmp Tryd.results18 _ _ w.heap.size 32 _ (0, 0) _ rfl (set3_row hz _ _ _) Tryd.underlying32 rfl (by kernel_rfl)) rfl ⟨HV.out, set3_below hB _ (Nat.le_refl _) _ _ _⟩
  · have h2' : ¬ (a : Int) + 2 ≤ (s.size : Int) := by omega
    have htw := sign_two hc (List.getElem?_eq_none (by have := HLS.out; omega))
    have HV1 : Hid (signsL.contains c = true → PO _) := HVV1.out htw
    have HV0 : Hid (signsL.contains c = false → PO _) := HVV0.out htw
    clear htw HT2 HVV1 HVV0
    go_wp2
    go_loopw [17] (fun c17 wr => ∃ i : Nat, i ≤ 15 ∧ c17 = .int .i64 (i : Int) ∧ Hid (∀ j, j < i → signsL[j]? ≠ some c) ∧ wr = w1) (fun c17 _ => 15 - (intOf c17).toNat)
    case atStart =>
      have h : ∀ j, j < 0 → signsL[j]? ≠ some c := fun j h => absurd h (Nat.not_lt_zero _)
      exact ⟨0, by omega, rfl, h, rfl⟩
    case round =>
      obtain ⟨i, hi, rfl, hj, hw⟩ := hrel
      have hw' := hw.symm
      subst hw'
      clear hw
      by_cases hi15 : i < 15
      · have hi15' : (i : Int) < 15 := by omega
        have hsz15 : i < (⟨#[61, 60, 62, 43, 45, 42, 40, 41, 123, 125, 91, 93, 44, 58, 46]⟩ : ByteArray).size := hi15
        obtain ⟨x, hx, hex⟩ := at_chr hsz15
        have hxe : (((⟨#[61, 60, 62, 43, 45, 42, 40, 41, 123, 125, 91, 93, 44, 58, 46]⟩ : ByteArray)[i].toNat : Nat) : Int) = (x.toNat : Int) := by rw [chr_eq _ i hsz15, hex]
        have HXE : Hid (signsL[i]? = some x) := hx
        clear hx hex
        by_cases hxc : x = c
        · have hxc' : ((x.toNat : Nat) : Int) = (c.toNat : Int) := by rw [hxc]
          have hcon : signsL.contains c = true := by
            rw [List.contains_iff_mem, ← hxc]
            exact List.mem_of_getElem? HXE.out
          have hV := HV1.out hcon
          have HV : Hid (PO _) := hV
          have hxe2 : (((⟨#[61, 60, 62, 43, 45, 42, 40, 41, 123, 125, 91, 93, 44, 58, 46]⟩ : ByteArray)[i].toNat : Nat) : Int) = (c.toNat : Int) := by rw [hxe, hxc']
          clear hxc hcon hV hxe hxc'
          go_wp2
          exact bodyPost_ret (results_row_tmp Tryd.results18 _ _ w.heap.size 32 _ (0, 0) _ rfl (set3_row hz _ _ _) Tryd.underlying32 rfl (by kernel_rfl)) rfl ⟨HV.out, set3_below hB _ (Nat.le_refl _) _ _ _⟩
        · have hxc' : ¬ ((x.toNat : Nat) : Int) = (c.toNat : Int) := fun e => hxc (UInt8.toNat_inj.1 (by omega))
          go_wp2
          refine ⟨⟨i + 1, by omega, by go_num, ?_, trivial⟩, ?_⟩
          · have h : ∀ j, j < i + 1 → signsL[j]? ≠ some c := fun j h1 => by
              rcases Nat.lt_or_ge j i with k | k
              · exact hj.out j k
              · obtain rfl : j = i := by omega
                rw [HXE.out]
                exact fun e => hxc (Option.some.inj e)
            exact h
          · simp [intOf]
            omega
      · have hi15' : ¬ (i : Int) < 15 := by omega
        have hcon : signsL.contains c = false := by
          rw [Bool.eq_false_iff, ne_eq, List.contains_iff_mem]
          intro hm
          obtain ⟨j, hjl, hje⟩ := List.mem_iff_getElem.1 hm
          have hjl' : j < 15 := hjl
          exact hj.out j (by omega) (by rw [List.getElem?_eq_getElem hjl, hje])
        have hV := HV0.out hcon
        have HV : Hid (PO _) := hV
        clear hcon hV
        go_wp2
        exact bodyPost_ret (results_row_tmp Tryd.results18 _ _ w.heap.size 32 _ (0, 0) _ rfl (set3_row hz _ _ _) Tryd.underlying32 rfl (by kernel_rfl)) rfl ⟨HV.out, set3_below hB _ (Nat.le_refl _) _ _ _⟩
end Go.Proofs.YticmoapmolmcjaaDoor
