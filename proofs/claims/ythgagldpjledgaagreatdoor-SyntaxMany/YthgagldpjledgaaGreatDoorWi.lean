/- Numbers (numWord), and the word that bytes begin with (first). -/
import Derived.Test.YthgagldpjledgaaGreatDoorWh
namespace Go.Proofs.YthgagldpjledgaaGreatDoor
open Go.RowKit Go.Shelf
/- What the library's variable ErrRange holds: some error. -/
def Er (w : World) : Prop := ∃ te pe, w.cell? ⟨2, 0, none⟩ = some (.iface te pe)
theorem Er.lt {w : World} (h : Er w) : 2 < w.heap.size := by
  obtain ⟨te, pe, h⟩ := h
  exact Lib.lt_of_cell h
theorem Er.later {w w' : World} (h : Er w) (hb : Below w.heap.size w w') : Er w' := by
  have hl := h.lt
  obtain ⟨te, pe, h⟩ := h
  exact ⟨te, pe, (hb.cell (show (⟨2, 0, none⟩ : Addr).block < w.heap.size from hl)).trans h⟩
theorem Er.upto {w w' : World} {B : Nat} (h : Er w) (hB : 2 < B) (hb : Below B w w') : Er w' := by
  obtain ⟨te, pe, h⟩ := h
  exact ⟨te, pe, (hb.cell (show (⟨2, 0, none⟩ : Addr).block < B from hB)).trans h⟩
/- ParseInt of digits: an error, or none. -/
theorem parse_any (t : ByteArray) (ht : t.size ≤ 10000) (h0 : 0 < t.size) (hd : ∀ c ∈ t.data.toList, digitB (c.toNat : Int) = true) (w : World) (he : Er w) :
    Calls Tryz.prog 87 #[.string t, .int .i64 10, .int .i64 64] w fun e w' => (∃ v ev, e = .returned (.tuple #[.int .i64 v, ev]) ∧ ((valL 0 t.data.toList ≤ 9223372036854775807 ∧ ev = .nilIface) ∨ (¬ valL 0 t.data.toList ≤ 9223372036854775807 ∧ ∃ b, ev = .iface 144 (.pointer (some ⟨b, 0, none⟩))))) ∧ Below w.heap.size w w' := by
  have hl := Lib.size_eq t
  have hne : t.data.toList ≠ [] := fun e => by rw [e, List.length_nil] at hl; omega
  have hp := parse_digits hne hd
  by_cases h : valL 0 t.data.toList ≤ 9223372036854775807
  · rw [if_pos h] at hp
    refine (Tryz.strconv_ParseInt_10_at64_ok t (by omega) _ hp w).mono ?_
    rintro e w' ⟨rfl, hw⟩
    refine ⟨⟨_, _, rfl, Or.inl ⟨h, rfl⟩⟩, ?_⟩
    rcases hw with rfl | ⟨u, rfl⟩
    · exact Below.refl _ _
    · exact Lib.bytesWorld_below _ _ _
  · rw [if_neg h] at hp
    obtain ⟨te, pe, hv⟩ := he
    refine (Tryz.strconv_ParseInt_10_at64_range t (by omega) hp _ w hv (Or.inr ⟨te, pe, rfl⟩)).mono ?_
    rintro e w' ⟨b, rfl, _, _, hb⟩
    exact ⟨⟨_, _, rfl, Or.inr ⟨h, b, rfl⟩⟩, hb⟩
def numA (l : List UInt8) : Fo := if numB (l.take (runL digitB l)) = true then some (3, l.take (runL digitB l), runL digitB l) else none
set_option maxRecDepth 20000 in
set_option maxHeartbeats 4000000 in
theorem numWord_any (s : ByteArray) (hs : s.size ≤ 10000) (h0 : 0 < s.size) (hd : digitB (chr s 0) = true) (w : World) (he : Er w) :
    Calls Tryz.prog 57 #[.string s] w fun e w' => e = .returned (wV (numA s.data.toList)) ∧ Below w.heap.size w w' := by
  have hr := run_any 55 digitB en22 digit_any s (by omega)
  have hl := Lib.size_eq s
  have hle := runL_le digitB s.data.toList
  obtain ⟨c, hc, hec⟩ := at_chr h0
  have hpos : 0 < runL digitB s.data.toList := by
    rw [hec] at hd
    have := drop_at hc
    rw [List.drop_zero] at this
    rw [this, runL_pos _ _ hd]
    omega
  have hsz : (s.extract 0 (runL digitB s.data.toList)).size = runL digitB s.data.toList := by rw [ByteArray.size_extract]; omega
  have hpp := parse_any (s.extract 0 (runL digitB s.data.toList)) (by omega) (by omega) (by rw [ext_take]; exact runL_take digitB _)
  rw [ext_take] at hpp
  have hb : s.extract 0 (runL digitB s.data.toList) = ⟨(s.data.toList.take (runL digitB s.data.toList)).toArray⟩ := ba_eq (ext_take _ _)
  have hV : wV (numA s.data.toList) = if (1 < runL digitB s.data.toList ∧ c = 48) ∨ ¬ valL 0 (s.data.toList.take (runL digitB s.data.toList)) ≤ 9223372036854775807 then wV none else .tuple #[.agg #[.int .i64 3, .string (s.extract 0 (runL digitB s.data.toList)), .int .i64 0], .int .i64 (runL digitB s.data.toList : Int)] := by
    unfold numA
    have hn : numB (s.data.toList.take (runL digitB s.data.toList)) = decide (¬ ((1 < runL digitB s.data.toList ∧ c = 48) ∨ ¬ valL 0 (s.data.toList.take (runL digitB s.data.toList)) ≤ 9223372036854775807)) := by
      unfold numB
      rw [List.length_take, Nat.min_eq_left (by omega), List.getElem?_take, if_pos hpos, hc]
      by_cases h1 : 1 < runL digitB s.data.toList <;> by_cases h2 : c = 48 <;> by_cases h3 : valL 0 (s.data.toList.take (runL digitB s.data.toList)) ≤ 9223372036854775807 <;> simp [h1, h2, h3]
    rw [hn]
    by_cases hh : (1 < runL digitB s.data.toList ∧ c = 48) ∨ ¬ valL 0 (s.data.toList.take (runL digitB s.data.toList)) ≤ 9223372036854775807
    · rw [if_pos hh, if_neg (by rw [decide_eq_true_iff]; exact fun h => h hh)]
    · rw [if_neg hh, if_pos (decide_eq_true hh), hb]
      rfl
  have hce : ((s[0].toNat : Nat) : Int) = (c.toNat : Int) := by rw [chr_eq s 0 h0, hec]
  obtain ⟨V, hVV⟩ : ∃ V, wV (numA s.data.toList) = V := ⟨_, rfl⟩
  rw [hVV] at hV ⊢
  obtain ⟨v, hv⟩ : ∃ v, valL 0 (s.data.toList.take (runL digitB s.data.toList)) = v := ⟨_, rfl⟩
  rw [hv] at hV hpp
  obtain ⟨r, hrr⟩ : ∃ r, runL digitB s.data.toList = r := ⟨_, rfl⟩
  rw [hrr] at hr hle hpos hpp hV
  have hrs : (r : Int) ≤ (s.size : Int) := by omega
  have hr1 : (1 : Int) ≤ (r : Int) := by omega
  have h0' : 0 < (s.size : Int) := by omega
  clear hrr hle hl hb hVV hv hsz hd hec hc
  have HV : Hid (V = if (1 < r ∧ c = 48) ∨ ¬ v ≤ 9223372036854775807 then wV none else .tuple #[.agg #[.int .i64 3, .string (s.extract 0 r), .int .i64 0], .int .i64 (r : Int)]) := hV
  clear hV
  go_enter Tryz.func57, Tryz.ntmps57
  go_wp2_with fail
  refine (hr _).mono ?_
  rintro e w2 ⟨rfl, rfl⟩
  obtain ⟨w1, hw1⟩ : ∃ w1, w1 = w.alloc (.cells #[.int .i64 0, .string ⟨#[]⟩, .int .i64 0] 46) := ⟨_, rfl⟩
  have hz : Z3 w1 w.heap.size 46 := by rw [hw1]; exact Z3.new w 46
  have hB : Below w.heap.size w w1 := by rw [hw1]; exact (Below.refl _ w).alloc (Nat.le_refl _) _
  have f0 := frozen_of_row w1 _ 0 _ _ hz
  have f1 := frozen_of_row w1 _ 1 _ _ hz
  have f2 := frozen_of_row w1 _ 2 _ _ hz
  have c0 := cell_of_row w1 _ 0 _ _ _ hz
  have c1 := cell_of_row w1 _ 1 _ _ _ hz
  have c2 := cell_of_row w1 _ 2 _ _ _ hz
  rw [← hw1]
  have he1 : Er w1 := he.later hB
  clear hw1 hr
  by_cases hbad : 1 < r ∧ c = 48
  · have hV := HV.out
    rw [if_pos (Or.inl hbad)] at hV
    clear HV
    have HV : Hid (V = _) := hV
    clear hV
    have b1 : (1 : Int) < (r : Int) := by omega
    have b2 : ((s[0].toNat : Nat) : Int) = 48 := by rw [hce, hbad.2]; rfl
    clear hce hbad
    go_wp2
    refine bodyPost_ret (results_row_tmp Tryz.results57 _ _ w.heap.size 46 _ (0, 0) _ rfl (set3_row hz _ _ _) Tryz.underlying46 rfl (by kernel_rfl)) rfl ⟨?_, set3_below hB _ (Nat.le_refl _) _ _ _⟩
    rw [HV.out]
    rfl
  · have hpw := hpp w1 he1
    by_cases h1r : 1 < r
    · have b1 : (1 : Int) < (r : Int) := by omega
      have b2 : ¬ ((s[0].toNat : Nat) : Int) = 48 := by
        rw [hce]
        intro e
        exact hbad ⟨h1r, byte_of e (by decide)⟩
      clear hce
      go_wp2_with fail
      refine hpw.mono ?_
      rintro e w2 ⟨⟨x, ev, rfl, hev⟩, hb2⟩
      have hz' := hz.later hb2
      have hB' : Below w.heap.size w w2 := hB.trans (hb2.mono hB.size)
      clear hz hB f0 f1 f2 c0 c1 c2
      have hz := hz'
      have hB := hB'
      clear hz' hB'
      have f0 := frozen_of_row w2 _ 0 _ _ hz
      have f1 := frozen_of_row w2 _ 1 _ _ hz
      have f2 := frozen_of_row w2 _ 2 _ _ hz
      have c0 := cell_of_row w2 _ 0 _ _ _ hz
      have c1 := cell_of_row w2 _ 1 _ _ _ hz
      have c2 := cell_of_row w2 _ 2 _ _ _ hz
      rcases hev with ⟨hval, rfl⟩ | ⟨hval, b, rfl⟩
      · have hV := HV.out
        rw [if_neg (by rintro (h | h); exact hbad h; exact h hval)] at hV
        clear HV
        have HV : Hid (V = _) := hV
        clear hV
        go_wp2
        refine bodyPost_ret (results_row_tmp Tryz.results57 _ _ w.heap.size 46 _ (0, 0) _ rfl (set3_row hz _ _ _) Tryz.underlying46 rfl (by kernel_rfl)) rfl ⟨?_, set3_below hB _ (Nat.le_refl _) _ _ _⟩
        rw [HV.out]
        rfl
      · have hV := HV.out
        rw [if_pos (Or.inr hval)] at hV
        clear HV
        have HV : Hid (V = _) := hV
        clear hV
        go_wp2
        refine bodyPost_ret (results_row_tmp Tryz.results57 _ _ w.heap.size 46 _ (0, 0) _ rfl (set3_row hz _ _ _) Tryz.underlying46 rfl (by kernel_rfl)) rfl ⟨?_, set3_below hB _ (Nat.le_refl _) _ _ _⟩
        rw [HV.out]
        rfl
    · have b1 : ¬ (1 : Int) < (r : Int) := by omega
      clear hce
      go_wp2_with fail
      refine hpw.mono ?_
      rintro e w2 ⟨⟨x, ev, rfl, hev⟩, hb2⟩
      have hz' := hz.later hb2
      have hB' : Below w.heap.size w w2 := hB.trans (hb2.mono hB.size)
      clear hz hB f0 f1 f2 c0 c1 c2
      have hz := hz'
      have hB := hB'
      clear hz' hB'
      have f0 := frozen_of_row w2 _ 0 _ _ hz
      have f1 := frozen_of_row w2 _ 1 _ _ hz
      have f2 := frozen_of_row w2 _ 2 _ _ hz
      have c0 := cell_of_row w2 _ 0 _ _ _ hz
      have c1 := cell_of_row w2 _ 1 _ _ _ hz
      have c2 := cell_of_row w2 _ 2 _ _ _ hz
      rcases hev with ⟨hval, rfl⟩ | ⟨hval, b, rfl⟩
      · have hV := HV.out
        rw [if_neg (by rintro (h | h); exact hbad h; exact h hval)] at hV
        clear HV
        have HV : Hid (V = _) := hV
        clear hV
        go_wp2
        refine bodyPost_ret (results_row_tmp Tryz.results57 _ _ w.heap.size 46 _ (0, 0) _ rfl (set3_row hz _ _ _) Tryz.underlying46 rfl (by kernel_rfl)) rfl ⟨?_, set3_below hB _ (Nat.le_refl _) _ _ _⟩
        rw [HV.out]
        rfl
      · have hV := HV.out
        rw [if_pos (Or.inr hval)] at hV
        clear HV
        have HV : Hid (V = _) := hV
        clear hV
        go_wp2
        refine bodyPost_ret (results_row_tmp Tryz.results57 _ _ w.heap.size 46 _ (0, 0) _ rfl (set3_row hz _ _ _) Tryz.underlying46 rfl (by kernel_rfl)) rfl ⟨?_, set3_below hB _ (Nat.le_refl _) _ _ _⟩
        rw [HV.out]
        rfl
theorem fstA_eq {s : ByteArray} {c : UInt8} (hc : s.data.toList[0]? = some c) : fstA s.data.toList = if [120, 39].isPrefixOf s.data.toList = true then hexA s.data.toList else if (inNameB (c.toNat : Int) && !digitB (c.toNat : Int)) = true then nameA s.data.toList else if digitB (c.toNat : Int) = true then numA s.data.toList else if c = 39 then strA s.data.toList else signA s.data.toList := by
  have hd := drop_at hc
  rw [List.drop_zero] at hd
  rw [hd, fstA]
  rfl
set_option maxRecDepth 20000 in
set_option maxHeartbeats 8000000 in
theorem first_any (s : ByteArray) (hs : s.size ≤ 10000) (h0 : 0 < s.size) (w : World) (he : Er w) :
    Calls Tryz.prog 30 #[.string s] w fun e w' => e = .returned (wV (fstA s.data.toList)) ∧ Below w.heap.size w w' := by
  obtain ⟨c, hc, hec⟩ := at_chr h0
  have hce : ((s[0].toNat : Nat) : Int) = (c.toNat : Int) := by rw [chr_eq s 0 h0, hec]
  have hA := fstA_eq hc
  have hpx := Tryz.strings_HasPrefix s ⟨#[120, 39]⟩
  simp only at hpx
  unfold Lib.hasPrefix at hpx
  have hdd : ∀ w, Calls Tryz.prog 55 #[.int .u8 ((s[0].toNat : Nat) : Int)] w (fun e w' => e = .returned (.bool (digitB (c.toNat : Int))) ∧ w' = w) := by rw [hce]; exact digit_any _
  have hii : ∀ w, Calls Tryz.prog 54 #[.int .u8 ((s[0].toNat : Nat) : Int)] w (fun e w' => e = .returned (.bool (inNameB (c.toNat : Int))) ∧ w' = w) := by rw [hce]; exact inName_any _
  have hnm := nameWord_any s hs h0
  have hnu := numWord_any s hs h0
  rw [hec] at hnm hnu
  have hst := strWord_any s hs
  have hsg := signWord_any s h0
  have hhx := hexWord_any s hs h0
  obtain ⟨X, hX⟩ : ∃ X, fstA s.data.toList = X := ⟨_, rfl⟩
  obtain ⟨XH, hXH⟩ : ∃ X, hexA s.data.toList = X := ⟨_, rfl⟩
  obtain ⟨XN, hXN⟩ : ∃ X, nameA s.data.toList = X := ⟨_, rfl⟩
  obtain ⟨XU, hXU⟩ : ∃ X, numA s.data.toList = X := ⟨_, rfl⟩
  obtain ⟨XS, hXS⟩ : ∃ X, strA s.data.toList = X := ⟨_, rfl⟩
  obtain ⟨XG, hXG⟩ : ∃ X, signA s.data.toList = X := ⟨_, rfl⟩
  rw [hX, hXH, hXN, hXU, hXS, hXG] at hA
  rw [hX]
  rw [hXH] at hhx
  rw [hXN] at hnm
  rw [hXU] at hnu
  rw [hXS] at hst
  rw [hXG] at hsg
  clear hX hXH hXN hXU hXS hXG
  obtain ⟨P, hP⟩ : ∃ P, [120, 39].isPrefixOf s.data.toList = P := ⟨_, rfl⟩
  obtain ⟨D, hD⟩ : ∃ D, digitB (c.toNat : Int) = D := ⟨_, rfl⟩
  obtain ⟨I, hI⟩ : ∃ I, inNameB (c.toNat : Int) = I := ⟨_, rfl⟩
  rw [hP] at hA hpx
  rw [hD] at hA hdd hnm hnu
  rw [hI] at hA hii hnm
  clear hP hD hI hc hec
  have HCE : Hid (((s[0].toNat : Nat) : Int) = (c.toNat : Int)) := hce
  clear hce
  have HA : Hid (X = if P = true then XH else if (I && !D) = true then XN else if D = true then XU else if c = 39 then XS else XG) := hA
  clear hA
  have h0' : 0 < (s.size : Int) := by omega
  go_enter Tryz.func30, Tryz.ntmps30
  go_wp2_with fail
  refine (hpx _).mono ?_
  rintro e w2 ⟨rfl, rfl⟩
  obtain ⟨w0, hw0⟩ : ∃ w0, w0 = w.alloc (.cells #[.int .i64 0, .string ⟨#[]⟩, .int .i64 0] 46) := ⟨_, rfl⟩
  have hz0 : Z3 w0 w.heap.size 46 := by rw [hw0]; exact Z3.new w 46
  have hB0 : Below w.heap.size w w0 := by rw [hw0]; exact (Below.refl _ w).alloc (Nat.le_refl _) _
  have he0 : Er w0 := he.later hB0
  rw [← hw0]
  clear hw0 hpx
  cases P with
  | true =>
    rw [if_pos rfl] at HA
    clear hii hdd hnm hnu hst hsg
    go_wp2_with fail
    refine (hhx _).mono ?_
    rintro e w1 ⟨rfl, hb1⟩
    have hz : Z3 w1 w.heap.size 46 := hz0.later hb1
    have hB : Below w.heap.size w w1 := hB0.trans (hb1.mono hB0.size)
    unfold wV
    have f0 := frozen_of_row w1 _ 0 _ _ hz
    have f1 := frozen_of_row w1 _ 1 _ _ hz
    have f2 := frozen_of_row w1 _ 2 _ _ hz
    have c0 := cell_of_row w1 _ 0 _ _ _ hz
    have c1 := cell_of_row w1 _ 1 _ _ _ hz
    have c2 := cell_of_row w1 _ 2 _ _ _ hz
    go_wp2
    refine bodyPost_ret (results_row_tmp Tryz.results30 _ _ w.heap.size 46 _ (0, 0) _ rfl (set3_row hz _ _ _) Tryz.underlying46 rfl (by kernel_rfl)) rfl ⟨?_, set3_below hB _ (Nat.le_refl _) _ _ _⟩
    rw [HA.out]
    rfl
  | false =>
    rw [if_neg (by simp)] at HA
    clear hhx
    go_wp2_with fail
    refine (hii _).mono ?_
    rintro e w2 ⟨rfl, rfl⟩
    cases I with
    | true =>
      go_wp2_with fail
      refine (hdd _).mono ?_
      rintro e w2 ⟨rfl, rfl⟩
      cases D with
      | false =>
        rw [if_pos (by rfl)] at HA
        clear hii hdd hnu hst hsg
        go_wp2_with fail
        refine (hnm (by trivial) (by trivial) _).mono ?_
        rintro e w1 ⟨rfl, hb1⟩
        have hz : Z3 w1 w.heap.size 46 := hz0.later hb1
        have hB : Below w.heap.size w w1 := hB0.trans (hb1.mono hB0.size)
        unfold wV
        have f0 := frozen_of_row w1 _ 0 _ _ hz
        have f1 := frozen_of_row w1 _ 1 _ _ hz
        have f2 := frozen_of_row w1 _ 2 _ _ hz
        have c0 := cell_of_row w1 _ 0 _ _ _ hz
        have c1 := cell_of_row w1 _ 1 _ _ _ hz
        have c2 := cell_of_row w1 _ 2 _ _ _ hz
        go_wp2
        refine bodyPost_ret (results_row_tmp Tryz.results30 _ _ w.heap.size 46 _ (0, 0) _ rfl (set3_row hz _ _ _) Tryz.underlying46 rfl (by kernel_rfl)) rfl ⟨?_, set3_below hB _ (Nat.le_refl _) _ _ _⟩
        rw [HA.out]
        rfl
      | true =>
        rw [if_neg (by simp), if_pos rfl] at HA
        go_wp2_with fail
        refine (hdd _).mono ?_
        rintro e w2 ⟨rfl, rfl⟩
        clear hii hdd hnm hst hsg
        go_wp2_with fail
        refine (hnu (by trivial) _ he0).mono ?_
        rintro e w1 ⟨rfl, hb1⟩
        have hz : Z3 w1 w.heap.size 46 := hz0.later hb1
        have hB : Below w.heap.size w w1 := hB0.trans (hb1.mono hB0.size)
        unfold wV
        have f0 := frozen_of_row w1 _ 0 _ _ hz
        have f1 := frozen_of_row w1 _ 1 _ _ hz
        have f2 := frozen_of_row w1 _ 2 _ _ hz
        have c0 := cell_of_row w1 _ 0 _ _ _ hz
        have c1 := cell_of_row w1 _ 1 _ _ _ hz
        have c2 := cell_of_row w1 _ 2 _ _ _ hz
        go_wp2
        refine bodyPost_ret (results_row_tmp Tryz.results30 _ _ w.heap.size 46 _ (0, 0) _ rfl (set3_row hz _ _ _) Tryz.underlying46 rfl (by kernel_rfl)) rfl ⟨?_, set3_below hB _ (Nat.le_refl _) _ _ _⟩
        rw [HA.out]
        rfl
    | false =>
      rw [if_neg (by simp)] at HA
      go_wp2_with fail
      refine (hdd _).mono ?_
      rintro e w2 ⟨rfl, rfl⟩
      cases D with
      | true =>
        rw [if_pos rfl] at HA
        clear hii hdd hnm hst hsg
        go_wp2_with fail
        refine (hnu (by trivial) _ he0).mono ?_
        rintro e w1 ⟨rfl, hb1⟩
        have hz : Z3 w1 w.heap.size 46 := hz0.later hb1
        have hB : Below w.heap.size w w1 := hB0.trans (hb1.mono hB0.size)
        unfold wV
        have f0 := frozen_of_row w1 _ 0 _ _ hz
        have f1 := frozen_of_row w1 _ 1 _ _ hz
        have f2 := frozen_of_row w1 _ 2 _ _ hz
        have c0 := cell_of_row w1 _ 0 _ _ _ hz
        have c1 := cell_of_row w1 _ 1 _ _ _ hz
        have c2 := cell_of_row w1 _ 2 _ _ _ hz
        go_wp2
        refine bodyPost_ret (results_row_tmp Tryz.results30 _ _ w.heap.size 46 _ (0, 0) _ rfl (set3_row hz _ _ _) Tryz.underlying46 rfl (by kernel_rfl)) rfl ⟨?_, set3_below hB _ (Nat.le_refl _) _ _ _⟩
        rw [HA.out]
        rfl
      | false =>
        rw [if_neg (by simp)] at HA
        by_cases h39 : c = 39
        · rw [if_pos h39] at HA
          have h39' : ((s[0].toNat : Nat) : Int) = 39 := by rw [HCE.out, h39]; rfl
          clear h39 hii hdd hnm hnu hsg
          go_wp2_with fail
          refine (hst _).mono ?_
          rintro e w1 ⟨rfl, hb1⟩
          have hz : Z3 w1 w.heap.size 46 := hz0.later hb1
          have hB : Below w.heap.size w w1 := hB0.trans (hb1.mono hB0.size)
          unfold wV
          have f0 := frozen_of_row w1 _ 0 _ _ hz
          have f1 := frozen_of_row w1 _ 1 _ _ hz
          have f2 := frozen_of_row w1 _ 2 _ _ hz
          have c0 := cell_of_row w1 _ 0 _ _ _ hz
          have c1 := cell_of_row w1 _ 1 _ _ _ hz
          have c2 := cell_of_row w1 _ 2 _ _ _ hz
          go_wp2
          refine bodyPost_ret (results_row_tmp Tryz.results30 _ _ w.heap.size 46 _ (0, 0) _ rfl (set3_row hz _ _ _) Tryz.underlying46 rfl (by kernel_rfl)) rfl ⟨?_, set3_below hB _ (Nat.le_refl _) _ _ _⟩
          rw [HA.out]
          rfl
        · rw [if_neg h39] at HA
          have h39' : ¬ ((s[0].toNat : Nat) : Int) = 39 := by
            rw [HCE.out]
            intro e
            exact h39 (byte_of e (by decide))
          clear h39 hii hdd hnm hnu hst
          go_wp2_with fail
          refine (hsg _).mono ?_
          rintro e w1 ⟨rfl, hb1⟩
          have hz : Z3 w1 w.heap.size 46 := hz0.later hb1
          have hB : Below w.heap.size w w1 := hB0.trans (hb1.mono hB0.size)
          unfold wV
          have f0 := frozen_of_row w1 _ 0 _ _ hz
          have f1 := frozen_of_row w1 _ 1 _ _ hz
          have f2 := frozen_of_row w1 _ 2 _ _ hz
          have c0 := cell_of_row w1 _ 0 _ _ _ hz
          have c1 := cell_of_row w1 _ 1 _ _ _ hz
          have c2 := cell_of_row w1 _ 2 _ _ _ hz
          go_wp2
          refine bodyPost_ret (results_row_tmp Tryz.results30 _ _ w.heap.size 46 _ (0, 0) _ rfl (set3_row hz _ _ _) Tryz.underlying46 rfl (by kernel_rfl)) rfl ⟨?_, set3_below hB _ (Nat.le_refl _) _ _ _⟩
          rw [HA.out]
          rfl
end Go.Proofs.YthgagldpjledgaaGreatDoor
