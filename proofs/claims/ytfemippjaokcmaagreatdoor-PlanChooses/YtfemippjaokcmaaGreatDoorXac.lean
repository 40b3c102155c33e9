/- Numbers (numWord), and the word that bytes begin with (first). The words of a text (Words): in memory a list of rows of three cells. -/
import Derived.Test.YtfemippjaokcmaaGreatDoorXab
import Derived.Deep.AppendLies
import Derived.OwnWalk
namespace Go.Proofs.YtfemippjaokcmaaGreatDoor
open Go.RowKit Go.Shelf
/- What the library's variable ErrRange holds: some error. -/
def Er (w : World) : Prop := ∃ te pe, w.cell? ⟨2, 0, none⟩ = some (.iface te pe)
theorem Er.lt {w : World} (h : Er w) : 2 < w.heap.size := by
  obtain ⟨te, pe, h⟩ := h
  exact Lib.lt_of_cell h
theorem Er.later {w w' : World} (h : Er w) (hb : Below w.heap.size w w') : Er w' := by
  have hl := h.lt
  obtain ⟨te, pe, h⟩ := h
  exact ⟨te, pe, (hb.cell (show (⟨2, 0, none⟩ : Addr).block < w.heap.size from hl)).trans h⟩
/- ParseInt of digits: an error, or none. -/
theorem parse_any (t : ByteArray) (ht : t.size ≤ 10000) (h0 : 0 < t.size) (hd : ∀ c ∈ t.data.toList, digitB (c.toNat : Int) = true) (w : World) (he : Er w) :
    Calls Tryz.prog 140 #[.string t, .int .i64 10, .int .i64 64] w fun e w' => (∃ v ev, e = .returned (.tuple #[.int .i64 v, ev]) ∧ ((valL 0 t.data.toList ≤ 9223372036854775807 ∧ ev = .nilIface) ∨ (¬ valL 0 t.data.toList ≤ 9223372036854775807 ∧ ∃ b, ev = .iface 194 (.pointer (some ⟨b, 0, none⟩))))) ∧ Below w.heap.size w w' := by
  have hl := Lib.size_eq t
  have hne : t.data.toList ≠ [] := fun e => by rw [e, List.length_nil] at hl; omega
  have hp := parse_digits hne hd
  by_cases h : valL 0 t.data.toList ≤ 9223372036854775807
  · rw [if_pos h] at hp
    refine (Tryz.strconv_ParseInt_10_at64_ok t (by omega) _ hp w).mono ?_
    rintro e w' ⟨rfl, hw⟩
    refine ⟨⟨_, _, rfl, Or.inl ⟨h, rfl⟩⟩, ?_⟩
    rcases hw with rfl | ⟨u, rfl⟩
    · exact Below.refl _ _
    · exact Lib.bytesWorld_below _ _ _
  · rw [if_neg h] at hp
    obtain ⟨te, pe, hv⟩ := he
    refine (Tryz.strconv_ParseInt_10_at64_range t (by omega) hp _ w hv (Or.inr ⟨te, pe, rfl⟩)).mono ?_
    rintro e w' ⟨b, rfl, _, _, hb⟩
    exact ⟨⟨_, _, rfl, Or.inr ⟨h, b, rfl⟩⟩, hb⟩
def numA (l : List UInt8) : Fo := if numB (l.take (runL digitB l)) = true then some (3, l.take (runL digitB l), runL digitB l) else none
set_option maxRecDepth 20000 in
set_option maxHeartbeats 4000000 in
theorem numWord_any (s : ByteArray) (hs : s.size ≤ 10000) (h0 : 0 < s.size) (hd : digitB (chr s 0) = true) (w : World) (he : Er w) :
    Calls Tryz.prog 113 #[.string s] w fun e w' => e = .returned (wV (numA s.data.toList)) ∧ Below w.heap.size w w' := by
  have hr := run_any 111 digitB en22 digit_any s (by omega)
  have hl := Lib.size_eq s
  have hle := runL_le digitB s.data.toList
  obtain ⟨c, hc, hec⟩ := at_chr h0
  have hpos : 0 < runL digitB s.data.toList := by
    rw [hec] at hd
    have := drop_at hc
    rw [List.drop_zero] at this
    rw [this, runL_pos _ _ hd]
    omega
  have hsz : (s.extract 0 (runL digitB s.data.toList)).size = runL digitB s.data.toList := by rw [ByteArray.size_extract]; omega
  have hpp := parse_any (s.extract 0 (runL digitB s.data.toList)) (by omega) (by omega) (by rw [ext_take]; exact runL_take digitB _)
  rw [ext_take] at hpp
  have hb : s.extract 0 (runL digitB s.data.toList) = ⟨(s.data.toList.take (runL digitB s.data.toList)).toArray⟩ := ba_eq (ext_take _ _)
  have hV : wV (numA s.data.toList) = if (1 < runL digitB s.data.toList ∧ c = 48) ∨ ¬ valL 0 (s.data.toList.take (runL digitB s.data.toList)) ≤ 9223372036854775807 then wV none else .tuple #[.agg #[.int .i64 3, .string (s.extract 0 (runL digitB s.data.toList)), .int .i64 0], .int .i64 (runL digitB s.data.toList : Int)] := by
    unfold numA
    have hn : numB (s.data.toList.take (runL digitB s.data.toList)) = decide (¬ ((1 < runL digitB s.data.toList ∧ c = 48) ∨ ¬ valL 0 (s.data.toList.take (runL digitB s.data.toList)) ≤ 9223372036854775807)) := by
      unfold numB
      rw [List.length_take, Nat.min_eq_left (by omega), List.getElem?_take, if_pos hpos, hc]
      by_cases h1 : 1 < runL digitB s.data.toList <;> by_cases h2 : c = 48 <;> by_cases h3 : valL 0 (s.data.toList.take (runL digitB s.data.toList)) ≤ 9223372036854775807 <;> simp [h1, h2, h3]
    rw [hn]
    by_cases hh : (1 < runL digitB s.data.toList ∧ c = 48) ∨ ¬ valL 0 (s.data.toList.take (runL digitB s.data.toList)) ≤ 9223372036854775807
    · rw [if_pos hh, if_neg (by rw [decide_eq_true_iff]; exact fun h => h hh)]
    · rw [if_neg hh, if_pos (decide_eq_true hh), hb]
      rfl
  have hce : ((s[0].toNat : Nat) : Int) = (c.toNat : Int) := by rw [chr_eq s 0 h0, hec]
  obtain ⟨V, hVV⟩ : ∃ V, wV (numA s.data.toList) = V := ⟨_, rfl⟩
  rw [hVV] at hV ⊢
  obtain ⟨v, hv⟩ : ∃ v, valL 0 (s.data.toList.take (runL digitB s.data.toList)) = v := ⟨_, rfl⟩
  rw [hv] at hV hpp
  obtain ⟨r, hrr⟩ : ∃ r, runL digitB s.data.toList = r := ⟨_, rfl⟩
  rw [hrr] at hr hle hpos hpp hV
  have hrs : (r : Int) ≤ (s.size : Int) := by omega
  have hr1 : (1 : Int) ≤ (r : Int) := by omega
  have h0' : 0 < (s.size : Int) := by omega
  clear hrr hle hl hb hVV hv hsz hd hec hc
  have HV : Hid (V = if (1 < r ∧ c = 48) ∨ ¬ v ≤ 9223372036854775807 then wV none else .tuple #[.agg #[.int .i64 3, .string (s.extract 0 r), .int .i64 0], .int .i64 (r : Int)]) := hV
  clear hV
  go_enter Tryz.func113, Tryz.ntmps113
  go_wp2_with fail
  refine (hr _).mono ?_
  rintro e w2 ⟨rfl, rfl⟩
  obtain ⟨w1, hw1⟩ : ∃ w1, w1 = w.alloc (.cells #[.int .i64 0, .string ⟨#[]⟩, .int .i64 0] 128) := ⟨_, rfl⟩
  have hz : Z3 w1 w.heap.size 128 := by rw [hw1]; exact Z3.new w 128
  have hB : Below w.heap.size w w1 := by rw [hw1]; exact (Below.refl _ w).alloc (Nat.le_refl _) _
  have f0 := frozen_of_row w1 _ 0 _ _ hz
  have f1 := frozen_of_row w1 _ 1 _ _ hz
  have f2 := frozen_of_row w1 _ 2 _ _ hz
  have c0 := cell_of_row w1 _ 0 _ _ _ hz
  have c1 := cell_of_row w1 _ 1 _ _ _ hz
  have c2 := cell_of_row w1 _ 2 _ _ _ hz
  rw [← hw1]
  have he1 : Er w1 := he.later hB
  clear hw1 hr
  by_cases hbad : 1 < r ∧ c = 48
  · have hV := HV.out
    rw [if_pos (Or.inl hbad)] at hV
    clear HV
    have HV : Hid (V = _) := hV
    clear hV
    have b1 : (1 : Int) < (r : Int) := by omega
    have b2 : ((s[0].toNat : Nat) : Int) = 48 := by rw [hce, hbad.2]; rfl
    clear hce hbad
    go_wp2
    refine bodyPost_ret (results_row_tmp Tryz.results113 _ _ w.heap.size 128 _ (0, 0) _ rfl (set3_row hz _ _ _) Tryz.underlying128 rfl (by kernel_rfl)) rfl ⟨?_, set3_below hB _ (Nat.le_refl _) _ _ _⟩
    rw [HV.out]
    rfl
  · have hpw := hpp w1 he1
    by_cases h1r : 1 < r
    · have b1 : (1 : Int) < (r : Int) := by omega
      have b2 : ¬ ((s[0].toNat : Nat) : Int) = 48 := by
        rw [hce]
        intro e
        exact hbad ⟨h1r, byte_of e (by decide)⟩
      clear hce
      go_wp2_with fail
      refine hpw.mono ?_
      rintro e w2 ⟨⟨x, ev, rfl, hev⟩, hb2⟩
      have hz' := hz.later hb2
      have hB' : Below w.heap.size w w2 := hB.trans (hb2.mono hB.size)
      clear hz hB f0 f1 f2 c0 c1 c2
      have hz := hz'
      have hB := hB'
      clear hz' hB'
      have f0 := frozen_of_row w2 _ 0 _ _ hz
      have f1 := frozen_of_row w2 _ 1 _ _ hz
      have f2 := frozen_of_row w2 _ 2 _ _ hz
      have c0 := cell_of_row w2 _ 0 _ _ _ hz
      have c1 := cell_of_row w2 _ 1 _ _ _ hz
      have c2 := cell_of_row w2 _ 2 _ _ _ hz
      rcases hev with ⟨hval, rfl⟩ | ⟨hval, b, rfl⟩
      · have hV := HV.out
        rw [if_neg (by rintro (h | h); exact hbad h; exact h hval)] at hV
        clear HV
        have HV : Hid (V = _) := hV
        clear hV
        go_wp2
        refine bodyPost_ret (results_row_tmp Tryz.results113 _ _ w.heap.size 128 _ (0, 0) _ rfl (set3_row hz _ _ _) Tryz.underlying128 rfl (by kernel_rfl)) rfl ⟨?_, set3_below hB _ (Nat.le_refl _) _ _ _⟩
        rw [HV.out]
        rfl
      · have hV := HV.out
        rw [if_pos (Or.inr hval)] at hV
        clear HV
        have HV : Hid (V = _) := hV
        clear hV
        go_wp2
        refine bodyPost_ret (results_row_tmp Tryz.results113 _ _ w.heap.size 128 _ (0, 0) _ rfl (set3_row hz _ _ _) Tryz.underlying128 rfl (by kernel_rfl)) rfl ⟨?_, set3_below hB _ (Nat.le_refl _) _ _ _⟩
        rw [HV.out]
        rfl
    · have b1 : ¬ (1 : Int) < (r : Int) := by omega
      clear hce
      go_wp2_with fail
      refine hpw.mono ?_
      rintro e w2 ⟨⟨x, ev, rfl, hev⟩, hb2⟩
      have hz' := hz.later hb2
      have hB' : Below w.heap.size w w2 := hB.trans (hb2.mono hB.size)
      clear hz hB f0 f1 f2 c0 c1 c2
      have hz := hz'
      have hB := hB'
      clear hz' hB'
      have f0 := frozen_of_row w2 _ 0 _ _ hz
      have f1 := frozen_of_row w2 _ 1 _ _ hz
      have f2 := frozen_of_row w2 _ 2 _ _ hz
      have c0 := cell_of_row w2 _ 0 _ _ _ hz
      have c1 := cell_of_row w2 _ 1 _ _ _ hz
      have c2 := cell_of_row w2 _ 2 _ _ _ hz
      rcases hev with ⟨hval, rfl⟩ | ⟨hval, b, rfl⟩
      · have hV := HV.out
        rw [if_neg (by rintro (h | h); exact hbad h; exact h hval)] at hV
        clear HV
        have HV : Hid (V = _) := hV
        clear hV
        go_wp2
        refine bodyPost_ret (results_row_tmp Tryz.results113 _ _ w.heap.size 128 _ (0, 0) _ rfl (set3_row hz _ _ _) Tryz.underlying128 rfl (by kernel_rfl)) rfl ⟨?_, set3_below hB _ (Nat.le_refl _) _ _ _⟩
        rw [HV.out]
        rfl
      · have hV := HV.out
        rw [if_pos (Or.inr hval)] at hV
        clear HV
        have HV : Hid (V = _) := hV
        clear hV
        go_wp2
        refine bodyPost_ret (results_row_tmp Tryz.results113 _ _ w.heap.size 128 _ (0, 0) _ rfl (set3_row hz _ _ _) Tryz.underlying128 rfl (by kernel_rfl)) rfl ⟨?_, set3_below hB _ (Nat.le_refl _) _ _ _⟩
        rw [HV.out]
        rfl
theorem fstA_eq {s : ByteArray} {c : UInt8} (hc : s.data.toList[0]? = some c) : fstA s.data.toList = if [120, 39].isPrefixOf s.data.toList = true then hexA s.data.toList else if (inNameB (c.toNat : Int) && !digitB (c.toNat : Int)) = true then nameA s.data.toList else if digitB (c.toNat : Int) = true then numA s.data.toList else if c = 39 then strA s.data.toList else signA s.data.toList := by
  have hd := drop_at hc
  rw [List.drop_zero] at hd
  rw [hd, fstA]
  rfl
set_option maxRecDepth 20000 in
set_option maxHeartbeats 8000000 in
theorem first_any (s : ByteArray) (hs : s.size ≤ 10000) (h0 : 0 < s.size) (w : World) (he : Er w) :
    Calls Tryz.prog 79 #[.string s] w fun e w' => e = .returned (wV (fstA s.data.toList)) ∧ Below w.heap.size w w' := by
  obtain ⟨c, hc, hec⟩ := at_chr h0
  have hce : ((s[0].toNat : Nat) : Int) = (c.toNat : Int) := by rw [chr_eq s 0 h0, hec]
  have hA := fstA_eq hc
  have hpx := Tryz.strings_HasPrefix s ⟨#[120, 39]⟩
  simp only at hpx
  unfold Lib.hasPrefix at hpx
  have hdd : ∀ w, Calls Tryz.prog 111 #[.int .u8 ((s[0].toNat : Nat) : Int)] w (fun e w' => e = .returned (.bool (digitB (c.toNat : Int))) ∧ w' = w) := by rw [hce]; exact digit_any _
  have hii : ∀ w, Calls Tryz.prog 110 #[.int .u8 ((s[0].toNat : Nat) : Int)] w (fun e w' => e = .returned (.bool (inNameB (c.toNat : Int))) ∧ w' = w) := by rw [hce]; exact inName_any _
  have hnm := nameWord_any s hs h0
  have hnu := numWord_any s hs h0
  rw [hec] at hnm hnu
  have hst := strWord_any s hs
  have hsg := signWord_any s h0
  have hhx := hexWord_any s hs h0
  obtain ⟨X, hX⟩ : ∃ X, fstA s.data.toList = X := ⟨_, rfl⟩
  obtain ⟨XH, hXH⟩ : ∃ X, hexA s.data.toList = X := ⟨_, rfl⟩
  obtain ⟨XN, hXN⟩ : ∃ X, nameA s.data.toList = X := ⟨_, rfl⟩
  obtain ⟨XU, hXU⟩ : ∃ X, numA s.data.toList = X := ⟨_, rfl⟩
  obtain ⟨XS, hXS⟩ : ∃ X, strA s.data.toList = X := ⟨_, rfl⟩
  obtain ⟨XG, hXG⟩ : ∃ X, signA s.data.toList = X := ⟨_, rfl⟩
  rw [hX, hXH, hXN, hXU, hXS, hXG] at hA
  rw [hX]
  rw [hXH] at hhx
  rw [hXN] at hnm
  rw [hXU] at hnu
  rw [hXS] at hst
  rw [hXG] at hsg
  clear hX hXH hXN hXU hXS hXG
  obtain ⟨P, hP⟩ : ∃ P, [120, 39].isPrefixOf s.data.toList = P := ⟨_, rfl⟩
  obtain ⟨D, hD⟩ : ∃ D, digitB (c.toNat : Int) = D := ⟨_, rfl⟩
  obtain ⟨I, hI⟩ : ∃ I, inNameB (c.toNat : Int) = I := ⟨_, rfl⟩
  rw [hP] at hA hpx
  rw [hD] at hA hdd hnm hnu
  rw [hI] at hA hii hnm
  clear hP hD hI hc hec
  have HCE : Hid (((s[0].toNat : Nat) : Int) = (c.toNat : Int)) := hce
  clear hce
  have HA : Hid (X = if P = true then XH else if (I && !D) = true then XN else if D = true then XU else if c = 39 then XS else XG) := hA
  clear hA
  have h0' : 0 < (s.size : Int) := by omega
  go_enter Tryz.func79, Tryz.ntmps79
  go_wp2_with fail
  refine (hpx _).mono ?_
  rintro e w2 ⟨rfl, rfl⟩
  obtain ⟨w0, hw0⟩ : ∃ w0, w0 = w.alloc (.cells #[.int .i64 0, .string ⟨#[]⟩, .int .i64 0] 128) := ⟨_, rfl⟩
  have hz0 : Z3 w0 w.heap.size 128 := by rw [hw0]; exact Z3.new w 128
  have hB0 : Below w.heap.size w w0 := by rw [hw0]; exact (Below.refl _ w).alloc (Nat.le_refl _) _
  have he0 : Er w0 := he.later hB0
  rw [← hw0]
  clear hw0 hpx
  cases P with
  | true =>
    rw [if_pos rfl] at HA
    clear hii hdd hnm hnu hst hsg
    go_wp2_with fail
    refine (hhx _).mono ?_
    rintro e w1 ⟨rfl, hb1⟩
    have hz : Z3 w1 w.heap.size 128 := hz0.later hb1
    have hB : Below w.heap.size w w1 := hB0.trans (hb1.mono hB0.size)
    unfold wV
    have f0 := frozen_of_row w1 _ 0 _ _ hz
    have f1 := frozen_of_row w1 _ 1 _ _ hz
    have f2 := frozen_of_row w1 _ 2 _ _ hz
    have c0 := cell_of_row w1 _ 0 _ _ _ hz
    have c1 := cell_of_row w1 _ 1 _ _ _ hz
    have c2 := cell_of_row w1 _ 2 _ _ _ hz
    go_wp2
    refine bodyPost_ret (results_row_tmp Tryz.results79 _ _ w.heap.size 128 _ (0, 0) _ rfl (set3_row hz _ _ _) Tryz.underlying128 rfl (by kernel_rfl)) rfl ⟨?_, set3_below hB _ (Nat.le_refl _) _ _ _⟩
    rw [HA.out]
    rfl
  | false =>
    rw [if_neg (by simp)] at HA
    clear hhx
    go_wp2_with fail
    refine (hii _).mono ?_
    rintro e w2 ⟨rfl, rfl⟩
    cases I with
    | true =>
      go_wp2_with fail
      refine (hdd _).mono ?_
      rintro e w2 ⟨rfl, rfl⟩
      cases D with
      | false =>
        rw [if_pos (by rfl)] at HA
        clear hii hdd hnu hst hsg
        go_wp2_with fail
        refine (hnm (by trivial) (by trivial) _).mono ?_
        rintro e w1 ⟨rfl, hb1⟩
        have hz : Z3 w1 w.heap.size 128 := hz0.later hb1
        have hB : Below w.heap.size w w1 := hB0.trans (hb1.mono hB0.size)
        unfold wV
        have f0 := frozen_of_row w1 _ 0 _ _ hz
        have f1 := frozen_of_row w1 _ 1 _ _ hz
        have f2 := frozen_of_row w1 _ 2 _ _ hz
        have c0 := cell_of_row w1 _ 0 _ _ _ hz
        have c1 := cell_of_row w1 _ 1 _ _ _ hz
        have c2 := cell_of_row w1 _ 2 _ _ _ hz
        go_wp2
        refine bodyPost_ret (results_row_tmp Tryz.results79 _ _ w.heap.size 128 _ (0, 0) _ rfl (set3_row hz _ _ _) Tryz.underlying128 rfl (by kernel_rfl)) rfl ⟨?_, set3_below hB _ (Nat.le_refl _) _ _ _⟩
        rw [HA.out]
        rfl
      | true =>
        rw [if_neg (by simp), if_pos rfl] at HA
        go_wp2_with fail
        refine (hdd _).mono ?_
        rintro e w2 ⟨rfl, rfl⟩
        clear hii hdd hnm hst hsg
        go_wp2_with fail
        refine (hnu (by trivial) _ he0).mono ?_
        rintro e w1 ⟨rfl, hb1⟩
        have hz : Z3 w1 w.heap.size 128 := hz0.later hb1
        have hB : Below w.heap.size w w1 := hB0.trans (hb1.mono hB0.size)
        unfold wV
        have f0 := frozen_of_row w1 _ 0 _ _ hz
        have f1 := frozen_of_row w1 _ 1 _ _ hz
        have f2 := frozen_of_row w1 _ 2 _ _ hz
        have c0 := cell_of_row w1 _ 0 _ _ _ hz
        have c1 := cell_of_row w1 _ 1 _ _ _ hz
        have c2 := cell_of_row w1 _ 2 _ _ _ hz
        go_wp2
        refine bodyPost_ret (results_row_tmp Tryz.results79 _ _ w.heap.size 128 _ (0, 0) _ rfl (set3_row hz _ _ _) Tryz.underlying128 rfl (by kernel_rfl)) rfl ⟨?_, set3_below hB _ (Nat.le_refl _) _ _ _⟩
        rw [HA.out]
        rfl
    | false =>
      rw [if_neg (by simp)] at HA
      go_wp2_with fail
      refine (hdd _).mono ?_
      rintro e w2 ⟨rfl, rfl⟩
      cases D with
      | true =>
        rw [if_pos rfl] at HA
        clear hii hdd hnm hst hsg
        go_wp2_with fail
        refine (hnu (by trivial) _ he0).mono ?_
        rintro e w1 ⟨rfl, hb1⟩
        have hz : Z3 w1 w.heap.size 128 := hz0.later hb1
        have hB : Below w.heap.size w w1 := hB0.trans (hb1.mono hB0.size)
        unfold wV
        have f0 := frozen_of_row w1 _ 0 _ _ hz
        have f1 := frozen_of_row w1 _ 1 _ _ hz
        have f2 := frozen_of_row w1 _ 2 _ _ hz
        have c0 := cell_of_row w1 _ 0 _ _ _ hz
        have c1 := cell_of_row w1 _ 1 _ _ _ hz
        have c2 := cell_of_row w1 _ 2 _ _ _ hz
        go_wp2
        refine bodyPost_ret (results_row_tmp Tryz.results79 _ _ w.heap.size 128 _ (0, 0) _ rfl (set3_row hz _ _ _) Tryz.underlying128 rfl (by kernel_rfl)) rfl ⟨?_, set3_below hB _ (Nat.le_refl _) _ _ _⟩
        rw [HA.out]
        rfl
      | false =>
        rw [if_neg (by simp)] at HA
        by_cases h39 : c = 39
        · rw [if_pos h39] at HA
          have h39' : ((s[0].toNat : Nat) : Int) = 39 := by rw [HCE.out, h39]; rfl
          clear h39 hii hdd hnm hnu hsg
          go_wp2_with fail
          refine (hst _).mono ?_
          rintro e w1 ⟨rfl, hb1⟩
          have hz : Z3 w1 w.heap.size 128 := hz0.later hb1
          have hB : Below w.heap.size w w1 := hB0.trans (hb1.mono hB0.size)
          unfold wV
          have f0 := frozen_of_row w1 _ 0 _ _ hz
          have f1 := frozen_of_row w1 _ 1 _ _ hz
          have f2 := frozen_of_row w1 _ 2 _ _ hz
          have c0 := cell_of_row w1 _ 0 _ _ _ hz
          have c1 := cell_of_row w1 _ 1 _ _ _ hz
          have c2 := cell_of_row w1 _ 2 _ _ _ hz
          go_wp2
          refine bodyPost_ret (results_row_tmp Tryz.results79 _ _ w.heap.size 128 _ (0, 0) _ rfl (set3_row hz _ _ _) Tryz.underlying128 rfl (by kernel_rfl)) rfl ⟨?_, set3_below hB _ (Nat.le_refl _) _ _ _⟩
          rw [HA.out]
          rfl
        · rw [if_neg h39] at HA
          have h39' : ¬ ((s[0].toNat : Nat) : Int) = 39 := by
            rw [HCE.out]
            intro e
            exact h39 (byte_of e (by decide))
          clear h39 hii hdd hnm hnu hst
          go_wp2_with fail
          refine (hsg _).mono ?_
          rintro e w1 ⟨rfl, hb1⟩
          have hz : Z3 w1 w.heap.size 128 := hz0.later hb1
          have hB : Below w.heap.size w w1 := hB0.trans (hb1.mono hB0.size)
          unfold wV
          have f0 := frozen_of_row w1 _ 0 _ _ hz
          have f1 := frozen_of_row w1 _ 1 _ _ hz
          have f2 := frozen_of_row w1 _ 2 _ _ hz
          have c0 := cell_of_row w1 _ 0 _ _ _ hz
          have c1 := cell_of_row w1 _ 1 _ _ _ hz
          have c2 := cell_of_row w1 _ 2 _ _ _ hz
          go_wp2
          refine bodyPost_ret (results_row_tmp Tryz.results79 _ _ w.heap.size 128 _ (0, 0) _ rfl (set3_row hz _ _ _) Tryz.underlying128 rfl (by kernel_rfl)) rfl ⟨?_, set3_below hB _ (Nat.le_refl _) _ _ _⟩
          rw [HA.out]
          rfl
end Go.Proofs.YtfemippjaokcmaaGreatDoor
namespace Go.Proofs.YtfemippjaokcmaaGreatDoor
open Go.RowKit Go.Shelf
def wd1 (x : Wd) : List Value := [.int .i64 (x.k : Int), .string ⟨x.s.toArray⟩, .int .i64 (x.a : Int)]
def wdC (ws : List Wd) : List Value := ws.flatMap wd1
theorem wdC_app (a b : List Wd) : wdC (a ++ b) = wdC a ++ wdC b := by simp [wdC]
theorem wdC_one (x : Wd) : wdC [x] = wd1 x := by simp [wdC]
theorem wdC_ones (ws : List Wd) : ∀ u ∈ wdC ws, u.oneCell' = true := by
  intro u hu
  simp only [wdC, List.mem_flatMap] at hu
  obtain ⟨x, -, hx⟩ := hu
  simp only [wd1, List.mem_cons, List.not_mem_nil, or_false] at hx
  rcases hx with rfl | rfl | rfl <;> rfl
/- A slice of n parts of three cells each, whose cells are L. -/
structure Sl (w : World) (p : Option Addr) (n c : Nat) (L : List Value) : Prop where
  cap : n ≤ c ∧ c ≤ maxLen
  len : L.length = n * 3
  lies : 0 < n → ∃ b, p = some ⟨b, 0, none⟩ ∧ b < w.heap.size ∧ ∀ j u, L[j]? = some u → w.cell? ⟨b, j, none⟩ = some u
theorem cell_later {w w' : World} {b o : Nat} (hb : Below w.heap.size w w') (h : b < w.heap.size) : w'.cell? ⟨b, o, none⟩ = w.cell? ⟨b, o, none⟩ :=
  World.cell?_of_block (a := ⟨b, o, none⟩) (hb.block b h)
theorem Sl.later {w w' : World} {p : Option Addr} {n c : Nat} {L : List Value} (h : Sl w p n c L) (hb : Below w.heap.size w w') : Sl w' p n c L := by
  refine ⟨h.cap, h.len, fun h0 => ?_⟩
  obtain ⟨b, h1, h2, h3⟩ := h.lies h0
  exact ⟨b, h1, Nat.lt_of_lt_of_le h2 hb.size, fun j u hu => (cell_later hb h2).trans (h3 j u hu)⟩
theorem Sl.nil (w : World) : Sl w none 0 0 [] := ⟨⟨Nat.le_refl _, Nat.zero_le _⟩, rfl, fun h => absurd h (by omega)⟩
theorem Sl.of_own {w : World} {base T n : Nat} {v : Value} {L : List Value} (h : w.ownsRow base T 3 v n L) : ∃ p c, v = .slice p n c ∧ Sl w p n c L := by
  have hl := h.1
  rcases h.2 with ⟨rfl, rfl⟩ | ⟨g, cap, cur, rfl, _, hg, hc, hm, hs, ht⟩
  · refine ⟨none, 0, rfl, ⟨⟨Nat.le_refl _, Nat.zero_le _⟩, hl, fun h => absurd h (by omega)⟩⟩
  · refine ⟨some ⟨g, 0, none⟩, cap, rfl, ⟨⟨hc, hm⟩, hl, fun _ => ⟨g, rfl, lt_of_row hg, fun j u hu => ?_⟩⟩⟩
    rw [cell_of_row w g _ _ _ _ hg]
    rw [← ht, List.getElem?_take] at hu
    split at hu
    · simpa using hu
    · cases hu
theorem own_laterN {w w' : World} {base : Nat} {e : TypeId} {z : Nat} {v : Value} {n : Nat} {xs : List Value} (h : w.ownsRow base e z v n xs) (hb : Below w.heap.size w w') : w'.ownsRow base e z v n xs := by
  refine ⟨h.1, ?_⟩
  rcases h.2 with h1 | ⟨g, cap, cur, h1, h2, h3, h4⟩
  · exact Or.inl h1
  · exact Or.inr ⟨g, cap, cur, h1, h2, (hb.block _ (lt_of_row h3)).trans h3, h4⟩
theorem two_new (w : World) (o p : Obj) : ((w.alloc o).alloc p).heap[w.heap.size + 1]? = some p := by
  have := heap_alloc_new (w.alloc o) p
  rw [World.size_alloc] at this
  exact this
theorem info46 : (Tryz.prog.info? 128).map (fun i => (i.zero, i.size, i.bytes)) = some (some (.agg #[.int .i64 0, .string ⟨#[]⟩, .int .i64 0]), 3, 32) := by kernel_rfl
/- What is known in the round. -/
structure WI (s : ByteArray) (a : Nat) (ws : List Wd) : Prop where
  le : ws.length ≤ a
  all : wdsL s.data.toList 0 = (ws ++ (wdsL (s.data.toList.drop a) a).1, (wdsL (s.data.toList.drop a) a).2)
theorem WI.start (s : ByteArray) : WI s (runL blankB s.data.toList) [] := by
  refine ⟨Nat.zero_le _, ?_⟩
  rw [wdsL_run s.data.toList 0, Nat.zero_add]
  rfl
theorem WI.bad {s : ByteArray} {a : Nat} {ws : List Wd} {c : UInt8} (h : WI s a ws) (hs : s.data.toList.length ≤ 2000) (hc : s.data.toList[a]? = some c) (hb : blankB (c.toNat : Int) = false) (hf : fstA (s.data.toList.drop a) = none) : wordsR s.data.toList = ([], a, 110) := by
  have hd := drop_at hc
  rw [hd] at hf
  have h1 := h.all
  rw [hd, wdsL_none a hb hf] at h1
  unfold wordsR
  rw [if_neg (by omega), h1]
theorem WI.step {s : ByteArray} {a k n : Nat} {t : List UInt8} {ws : List Wd} {c : UInt8} (h : WI s a ws) (hc : s.data.toList[a]? = some c) (hb : blankB (c.toNat : Int) = false) (hf : fstA (s.data.toList.drop a) = some (k, t, n)) : WI s (a + n) (ws ++ [⟨k, t, a⟩]) := by
  have hd := drop_at hc
  have hle := fstA_le hf
  refine ⟨by have := h.le; simp; omega, ?_⟩
  rw [hd] at hf
  have h1 := h.all
  rw [hd, wdsL_some a hb hf, ← hd, List.drop_drop] at h1
  rw [h1]
  simp
theorem WI.run {s : ByteArray} {a : Nat} {ws : List Wd} (h : WI s a ws) : WI s (a + runL blankB (s.data.toList.drop a)) ws := by
  refine ⟨by have := h.le; omega, ?_⟩
  have h1 := h.all
  rw [wdsL_run (s.data.toList.drop a) a, List.drop_drop] at h1
  exact h1
theorem WI.done {s : ByteArray} {a : Nat} {ws : List Wd} (h : WI s a ws) (hs : s.data.toList.length ≤ 2000) (ha : s.data.toList.length ≤ a) : wordsR s.data.toList = (ws ++ [⟨0, [], s.data.toList.length⟩], 0, 0) := by
  have h1 := h.all
  rw [List.drop_eq_nil_of_le ha, wdsL_nil] at h1
  unfold wordsR
  rw [if_neg (by omega), h1]
  simp
theorem not_blank (l : List UInt8) (c : UInt8) (h : l[runL blankB l]? = some c) : blankB (c.toNat : Int) = false := by
  induction l with
  | nil => simp at h
  | cons d r ih =>
    cases hd : blankB (d.toNat : Int) with
    | true => rw [runL_pos _ _ hd, List.getElem?_cons_succ] at h; exact ih h
    | false =>
      rw [runL_no _ _ hd] at h
      injection h with h
      rw [← h]; exact hd
theorem long_words {l : List UInt8} (h : 2000 < l.length) : wordsR l = ([], 2000, 3) := by unfold wordsR; rw [if_pos h]
set_option maxRecDepth 20000 in
set_option maxHeartbeats 8000000 in
theorem words_any (s : ByteArray) (hs : s.size ≤ 10000) (w : World) (he : Er w) :
    Calls Tryz.prog 53 #[.string s] w fun e w' => ∃ p c, e = .returned (.tuple #[.slice p (wordsR s.data.toList).1.length c, .int .i64 ((wordsR s.data.toList).2.1 : Int), .int .i64 ((wordsR s.data.toList).2.2 : Int)]) ∧ Sl w' p (wordsR s.data.toList).1.length c (wdC (wordsR s.data.toList).1) ∧ Below w.heap.size w w' := by
  have hl := Lib.size_eq s
  by_cases h2000 : 2000 < s.size
  · rw [long_words (by omega)]
    have h' : (2000 : Int) < (s.size : Int) := by omega
    clear hl
    go_enter Tryz.func53, Tryz.ntmps53
    go_wp2
    go_ret3
    exact ⟨none, 0, rfl, Sl.nil _, Below.refl _ _⟩
  · have h' : ¬ (2000 : Int) < (s.size : Int) := by omega
    obtain ⟨R, hR⟩ : ∃ R, wordsR s.data.toList = R := ⟨_, rfl⟩
    rw [hR]
    have HR : Hid (wordsR s.data.toList = R) := hR
    have HL : Hid (s.size = s.data.toList.length) := hl
    have hr0 := run_any 78 blankB en15 blank_any s (by omega)
    have hle0 := runL_le blankB s.data.toList
    have hnb0 := not_blank s.data.toList
    have hst := WI.start s
    obtain ⟨r0, hr0e⟩ : ∃ r, runL blankB s.data.toList = r := ⟨_, rfl⟩
    rw [hr0e] at hr0 hle0 hnb0 hst
    have HN0 : Hid (∀ c, s.data.toList[r0]? = some c → blankB (c.toNat : Int) = false) := hnb0
    have HS0 : Hid (WI s r0 []) := hst
    have hle0' : r0 ≤ s.size := by omega
    clear hr0e hR hl hle0 hnb0 hst
    go_enter Tryz.func53, Tryz.ntmps53
    go_wp2_with (go_at_call 77; refine (hr0 _).mono ?_; rintro e w2 ⟨rfl, hw2⟩; have hw2' := hw2.symm; subst hw2')
    obtain ⟨i0, hi, hz0, hz1, hz2⟩ := info_parts info46
    go_loopw [5, 6] (fun c5 c6 wr => ∃ (a : Nat) (ws : List Wd), a ≤ s.size ∧ c6 = .int .i64 (a : Int) ∧ Hid (WI s a ws) ∧ Hid (∀ c, s.data.toList[a]? = some c → blankB (c.toNat : Int) = false) ∧ wr.ownsRow w.heap.size 128 3 c5 ws.length (wdC ws) ∧ Below w.heap.size w wr) (fun _ c6 _ => s.size - (intOf c6).toNat)
    case atStart => exact ⟨r0, [], hle0', rfl, HS0, HN0, World.ownsRow_nil _ _ _ _, Below.refl _ _⟩
    case round =>
      obtain ⟨a, ws, ha, rfl, hwi, hnb, hown, hB⟩ := hrel
      have hwl : ws.length ≤ a := hwi.out.le
      have her : Er wr := he.later hB
      by_cases hlt : a < s.size
      · have hlt' : (a : Int) < (s.size : Int) := by omega
        have hle' : (a : Int) ≤ (s.size : Int) := by omega
        have hsx : (s.extract a s.size).size = s.size - a := by rw [ByteArray.size_extract]; omega
        have hf := first_any (s.extract a s.size) (by omega) (by omega) wr her
        rw [ext_drop] at hf
        obtain ⟨c, hc, _⟩ := at_chr hlt
        have HC : Hid (s.data.toList[a]? = some c) := hc
        have hb := hnb.out c hc
        have HB : Hid (blankB (c.toNat : Int) = false) := hb
        clear hc hb
        cases hfa : fstA (s.data.toList.drop a) with
        | none =>
          rw [hfa] at hf
          have HBAD : Hid (wordsR s.data.toList = ([], a, 110)) := hwi.out.bad (by have := HL.out; omega) HC.out HB.out hfa
          clear hfa
          go_wp2_with fail
          refine hf.mono ?_
          rintro e w1 ⟨rfl, hb1⟩
          simp only [wV, wK, wS, wN]
          go_wp2
          go_ret3
          rw [← HR.out, HBAD.out]
          exact ⟨none, 0, rfl, Sl.nil _, (hB.trans (hb1.mono hB.size)).alloc (Nat.le_trans hB.size hb1.size) _⟩
        | some x =>
          obtain ⟨k, t, n⟩ := x
          rw [hfa] at hf
          have hfl := fstA_le hfa
          rw [List.length_drop, ← HL.out] at hfl
          have HST : Hid (WI s (a + n) (ws ++ [⟨k, t, a⟩])) := hwi.out.step HC.out HB.out hfa
          have hsx2 : (s.extract (a + n) s.size).size ≤ 4611686018427387904 := by rw [ByteArray.size_extract]; omega
          have hrn := run_any 78 blankB en15 blank_any (s.extract (a + n) s.size) hsx2
          have hrl := runL_le blankB (s.data.toList.drop (a + n))
          have HNB := not_blank (s.data.toList.drop (a + n))
          have HRN : Hid (WI s (a + n + runL blankB (s.data.toList.drop (a + n))) (ws ++ [⟨k, t, a⟩])) := HST.out.run
          rw [ext_drop] at hrn
          rw [List.length_drop, ← HL.out] at hrl
          obtain ⟨r1, hr1⟩ : ∃ r, runL blankB (s.data.toList.drop (a + n)) = r := ⟨_, rfl⟩
          rw [hr1] at hrn hrl HNB HRN
          have HN2 : Hid (∀ c, s.data.toList[a + n + r1]? = some c → blankB (c.toNat : Int) = false) := by
            have : ∀ c, s.data.toList[a + n + r1]? = some c → blankB (c.toNat : Int) = false := fun c hc => HNB c (by rw [List.getElem?_drop]; exact hc)
            exact this
          have hnz : ¬ (n : Int) = 0 := by omega
          have han : (a : Int) + (n : Int) ≤ (s.size : Int) := by omega
          have hcast : ((a + n : Nat) : Int) = (a : Int) + (n : Int) := by omega
          clear hr1 HNB hfa HST
          go_wp2_with fail
          refine hf.mono ?_
          rintro e w1 ⟨rfl, hb1⟩
          simp only [wV, wK, wS, wN]
          have hB1 : Below w.heap.size w w1 := hB.trans (hb1.mono hB.size)
          have hown1 := own_laterN hown hb1
          have hws : w.heap.size ≤ w1.heap.size := hB1.size
          clear hf hb1 hown hB hwi hnb
          have HST : Hid True := trivial
          go_wp2_with (at_builtin; refine wpList_append_own _ rfl _ _ 97 rfl w.heap.size 128 i0 (.agg #[.int .i64 0, .string ⟨#[]⟩, .int .i64 0]) 3 32 Tryz.underlying97 hi hz0 hz1 hz2 rfl (by decide) _ _ _ rfl ((hown1.alloc _).alloc _) ⟨w1.heap.size + 1, 0, none⟩ 1 1 (wd1 ⟨k, t, a⟩) rfl rfl ?c1 ?c2 ?c3 ?c4 ?c5 ?_)
          case c1 => exact World.news_of_block (two_new w1 _ _)
          case c2 => exact fun u hu => wdC_ones [⟨k, t, a⟩] u (by rw [wdC_one]; exact hu)
          case c3 => unfold maxLen; omega
          case c4 => omega
          case c5 => simp; omega
          intro v' w2 hown2 hgr2 _
          have hB2 : Below w.heap.size w w2 := ((hB1.alloc hws _).alloc (by simp; omega) _).grown hgr2 (by simp; omega) (fun j hj => (hown1.lt j hj).1)
          have hown3 : w2.ownsRow w.heap.size 128 3 v' (ws ++ [(⟨k, t, a⟩ : Wd)]).length (wdC (ws ++ [⟨k, t, a⟩])) := by
            rw [wdC_app, wdC_one, List.length_append]
            exact hown2
          clear hown1 hown2 hgr2
          go_wp2_with (go_at_call 77; refine (hrn _).mono ?_; rintro e w3 ⟨rfl, hw3⟩; have hw3' := hw3.symm; subst hw3')
          go_roundw
          case rel => exact ⟨a + n + r1, ws ++ [⟨k, t, a⟩], by omega, by go_num, HRN, HN2, hown3, hB2⟩
          case measure => simp [intOf]; omega
      · have hlt' : ¬ (a : Int) < (s.size : Int) := by omega
        have HD : Hid (wordsR s.data.toList = (ws ++ [⟨0, [], s.data.toList.length⟩], 0, 0)) := hwi.out.done (by have := HL.out; omega) (by have := HL.out; omega)
        have hws : w.heap.size ≤ wr.heap.size := hB.size
        clear hwi hnb
        go_wp2_with (at_builtin; refine wpList_append_own _ rfl _ _ 97 rfl w.heap.size 128 i0 (.agg #[.int .i64 0, .string ⟨#[]⟩, .int .i64 0]) 3 32 Tryz.underlying97 hi hz0 hz1 hz2 rfl (by decide) _ _ _ rfl (hown.alloc _) ⟨wr.heap.size, 0, none⟩ 1 1 (wd1 ⟨0, [], s.size⟩) rfl rfl ?c1 ?c2 ?c3 ?c4 ?c5 ?_)
        case c1 => exact fun j u hu => hu
        case c2 => exact fun u hu => wdC_ones [⟨0, [], s.size⟩] u (by rw [wdC_one]; exact hu)
        case c3 => unfold maxLen; omega
        case c4 => omega
        case c5 => omega
        intro v' w2 hown2 hgr2 _
        have hB2 : Below w.heap.size w w2 := (hB.alloc hws _).grown hgr2 (by simp; omega) (fun j hj => (hown.lt j hj).1)
        have hown3 : w2.ownsRow w.heap.size 128 3 v' (ws ++ [(⟨0, [], s.size⟩ : Wd)]).length (wdC (ws ++ [⟨0, [], s.size⟩])) := by
          rw [wdC_app, wdC_one, List.length_append]
          exact hown2
        clear hown hown2 hgr2
        obtain ⟨p, c, rfl, hsl⟩ := Sl.of_own hown3
        go_wp2
        go_ret3
        rw [← HR.out, HD.out, ← HL.out]
        exact ⟨p, c, rfl, hsl, hB2⟩
end Go.Proofs.YtfemippjaokcmaaGreatDoor
