/- The document's word, where it is a name or a key, a number, a sign. -/
import Derived.Test.YticmoapmolmcjaaDoorRw
namespace Go.Proofs.YticmoapmolmcjaaDoor
open Go.RowKit Go.Shelf
theorem class_one (x : Int) : (classI x = 1 ∧ inNameB x = true) ∨ (classI x = 2 ∧ inNameB x = true) ∨ (¬ classI x = 1 ∧ ¬ classI x = 2 ∧ inNameB x = false) := by
  unfold classI
  cases hd : digitB x <;> cases hi : inNameB x
  · refine Or.inr (Or.inr ⟨?_, ?_, rfl⟩) <;> simp <;> split <;> decide
  · exact Or.inl ⟨rfl, rfl⟩
  · exfalso
    unfold inNameB at hi
    rw [hd] at hi
    simp at hi
  · exact Or.inr (Or.inl ⟨rfl, rfl⟩)
theorem class_two (x : Int) : (classI x = 2 ∧ digitB x = true) ∨ (¬ classI x = 2 ∧ digitB x = false) := by
  unfold classI
  cases hd : digitB x
  · refine Or.inr ⟨?_, rfl⟩
    simp
    split
    · decide
    · split <;> decide
  · refine Or.inl ⟨?_, rfl⟩
    simp
theorem run_from {s : ByteArray} {a e : Nat} (p : Int → Bool) (hae : a ≤ e) (hes : e ≤ s.size) (h1 : ∀ j, a ≤ j → j < e → p (chr s j) = true) (h2 : e < s.size → p (chr s e) = false) : runL p (s.data.toList.drop a) = e - a := by
  have hl := Lib.size_eq s
  refine runL_eq p _ _ (by rw [List.length_drop]; omega) (fun c hc => ?_) (fun c hc => ?_)
  · obtain ⟨j, hj, rfl⟩ := List.mem_take_iff_getElem.1 hc
    rw [List.length_drop] at hj
    have := h1 (a + j) (by omega) (by omega)
    rw [chr_at (c := s.data.toList[a + j]) (List.getElem?_eq_getElem (by omega))] at this
    rw [List.getElem_drop]
    exact this
  · rw [List.getElem?_drop, show a + (e - a) = e by omega] at hc
    have hlt : e < s.data.toList.length := by
      rcases Nat.lt_or_ge e s.data.toList.length with h | h
      · exact h
      · rw [List.getElem?_eq_none h] at hc; cases hc
    have := h2 (by omega)
    rwa [chr_at hc] at this
set_option maxRecDepth 20000 in
set_option maxHeartbeats 16000000 in
theorem rword_name (s : ByteArray) (hs : s.size ≤ 10000) (a : Nat) (hlt : a < s.size) (c : UInt8) (hc : s.data.toList[a]? = some c) (hin : (inNameB (c.toNat : Int) && !digitB (c.toNat : Int)) = true)
    (hnx : ¬ ((c.toNat : Nat) : Int) = 120 ∨ (((c.toNat : Nat) : Int) = 120 ∧ ¬ (a : Int) + 1 < (s.size : Int)) ∨ (((c.toNat : Nat) : Int) = 120 ∧ (a : Int) + 1 < (s.size : Int) ∧ ∃ h : a + 1 < s.size, ¬ ((s[a + 1].toNat : Nat) : Int) = 39)) (w : World) :
    Calls Tryd.prog 18 #[.string s, .int .i64 (a : Int)] w fun e w' => RW a (nameA (s.data.toList.drop a)) e ∧ Below w.heap.size w w' := by
  have hlt' : (a : Int) < (s.size : Int) := by omega
  have hce : ((s[a].toNat : Nat) : Int) = (c.toNat : Int) := by rw [chr_eq s a hlt, chr_at hc]
  have hcl := class_any (c.toNat : Int)
  have hls := Lib.size_eq s
  have HLS : Hid (s.size = s.data.toList.length) := hls
  clear hls
  have h39 : ¬ ((c.toNat : Nat) : Int) = 39 := by
    intro e
    rw [e] at hin
    exact absurd hin (by decide)
  have hc1 : classI (c.toNat : Int) = 1 := by unfold classI; rw [if_pos hin]
  rw [hc1] at hcl
  have hV : ∀ e, runL inNameB (s.data.toList.drop a) = e - a → a ≤ e → e ≤ s.size → RW a (nameA (s.data.toList.drop a)) (.returned (if keyB (s.extract a e).data.toList = true then .tuple #[.agg #[.int .i64 2, .string (s.extract a e), .int .i64 (a : Int)], .int .i64 (e : Int)] else if 16 < (s.extract a e).size then .tuple #[.agg #[.int .i64 0, .string ⟨#[]⟩, .int .i64 0], .int .i64 0] else .tuple #[.agg #[.int .i64 1, .string (s.extract a e), .int .i64 (a : Int)], .int .i64 (e : Int)])) := by
    intro e h1 h2 h3
    unfold nameA
    have hl := Lib.size_eq s
    rw [h1, ext_list, ByteArray.size_extract, List.length_take, List.length_drop]
    have hx : s.extract a e = ⟨((s.data.toList.drop a).take (e - a)).toArray⟩ := ba_eq (ext_list _ _ _)
    by_cases hk : keyB ((s.data.toList.drop a).take (e - a)) = true
    · rw [if_pos hk, if_pos hk]
      exact RW.some (k := 2) hx (by omega)
    · rw [if_neg hk, if_neg hk]
      by_cases h16 : min (e - a) (s.data.toList.length - a) ≤ 16
      · rw [if_pos h16, if_neg (by omega)]
        exact RW.some (k := 1) hx (by omega)
      · rw [if_neg h16, if_pos (by omega)]
        exact RW.none a 0 _ 0
  obtain ⟨PO, hPO⟩ : ∃ PO, PO = fun e => RW a (nameA (s.data.toList.drop a)) e := ⟨_, rfl⟩
  have hPe : ∀ e, RW a (nameA (s.data.toList.drop a)) e = PO e := fun e => by rw [hPO]
  simp only [hPe] at hV ⊢
  have HV : Hid (∀ e, runL inNameB (s.data.toList.drop a) = e - a → a ≤ e → e ≤ s.size → PO (.returned (if keyB (s.extract a e).data.toList = true then .tuple #[.agg #[.int .i64 2, .string (s.extract a e), .int .i64 (a : Int)], .int .i64 (e : Int)] else if 16 < (s.extract a e).size then .tuple #[.agg #[.int .i64 0, .string ⟨#[]⟩, .int .i64 0], .int .i64 0] else .tuple #[.agg #[.int .i64 1, .string (s.extract a e), .int .i64 (a : Int)], .int .i64 (e : Int)]))) := hV
  clear hV hPO hPe hc1 hin
  go_enter Tryd.func18, Tryd.ntmps18
  rcases hnx with hnx | hnx | hnx
  · skip
    go_wp2_with fail
    refine (hcl _).mono ?_
    rintro e w2 ⟨rfl, rfl⟩
    obtain ⟨w1, hw1⟩ : ∃ w1, w1 = w.alloc (.cells #[.int .i64 0, .string ⟨#[]⟩, .int .i64 0] 32) := ⟨_, rfl⟩
    have hz : Z3 w1 w.heap.size 32 := by rw [hw1]; exact Z3.new w 32
    have hB : Below w.heap.size w w1 := by rw [hw1]; exact (Below.refl _ w).alloc (Nat.le_refl _) _
    rw [← hw1]
    clear hw1
    go_wp2
    go_loopw [13] (fun c13 wr => ∃ e : Nat, a ≤ e ∧ e ≤ s.size ∧ c13 = .int .i64 (e : Int) ∧ Hid (∀ j, a ≤ j → j < e → inNameB (chr s j) = true) ∧ wr = w1) (fun c13 _ => s.size - (intOf c13).toNat)
    case atStart =>
      have h : ∀ j, a ≤ j → j < a → inNameB (chr s j) = true := fun j h1 h2 => by omega
      exact ⟨a, Nat.le_refl _, by omega, rfl, h, rfl⟩
    case round =>
      obtain ⟨e, hae, hes, rfl, hj, hw⟩ := hrel
      have hw' := hw.symm
      subst hw'
      clear hw
      by_cases hle : e < s.size
      · have hle' : (e : Int) < (s.size : Int) := by omega
        have hce2 : ((s[e].toNat : Nat) : Int) = chr s e := chr_eq s e hle
        have hcl2 := class_any (chr s e)
        have hnext : inNameB (chr s e) = true → Hid (∀ j, a ≤ j → j < e + 1 → inNameB (chr s j) = true) := fun hp => by
          have h : ∀ j, a ≤ j → j < e + 1 → inNameB (chr s j) = true := fun j h1 h2 => by
            rcases Nat.lt_or_ge j e with k | k
            · exact hj.out j h1 k
            · obtain rfl : j = e := by omega
              exact hp
          exact h
        obtain ⟨x, hx⟩ : ∃ x, chr s e = x := ⟨_, rfl⟩
        have hcx := class_one x
        rw [hx] at hce2 hcl2 hnext
        have HX : Hid (chr s e = x) := hx
        clear hx
        rcases hcx with ⟨hc1, hin⟩ | ⟨hc1, hin⟩ | ⟨hc1, hc2, hin⟩
        · rw [hc1] at hcl2
          clear hc1
          go_wp2_with fail
          refine (hcl2 _).mono ?_
          rintro e1 w2 ⟨rfl, rfl⟩
          go_wp2
          refine ⟨⟨e + 1, by omega, by omega, by go_num, hnext hin, trivial⟩, ?_⟩
          simp [intOf]
          omega
        · rw [hc1] at hcl2
          clear hc1
          go_wp2_with fail
          refine (hcl2 _).mono ?_
          rintro e1 w2 ⟨rfl, rfl⟩
          go_wp2_with fail
          refine (hcl2 _).mono ?_
          rintro e1 w2 ⟨rfl, rfl⟩
          go_wp2
          refine ⟨⟨e + 1, by omega, by omega, by go_num, hnext hin, trivial⟩, ?_⟩
          simp [intOf]
          omega
        · have hrun := run_from inNameB hae hes hj.out (fun _ => by rw [HX.out]; exact hin)
          obtain ⟨y, hy⟩ : ∃ y, classI x = y := ⟨_, rfl⟩
          rw [hy] at hcl2 hc1 hc2
          clear hy hnext hin
          go_wp2_with fail
          refine (hcl2 _).mono ?_
          rintro e1 w2 ⟨rfl, rfl⟩
          go_wp2_with fail
          refine (hcl2 _).mono ?_
          rintro e1 w2 ⟨rfl, rfl⟩
          have hV := HV.out e hrun hae hes
          clear HV hrun hj
          have hkey := rkey_any (s.extract a e)
          have hsx : (s.extract a e).size = e - a := by rw [ByteArray.size_extract]; omega
          have haE : (a : Int) ≤ (e : Int) := by omega
          have hEs : ((e : Nat) : Int) ≤ (s.size : Int) := by omega
          obtain ⟨K, hK⟩ : ∃ K, keyB (s.extract a e).data.toList = K := ⟨_, rfl⟩
          rw [hK] at hkey hV
          rw [hsx] at hV
          have HV : Hid (PO _) := hV
          clear hK hV
          go_wp2_with fail
          refine (hkey _).mono ?_
          rintro e1 w3 ⟨rfl, hb3⟩
          have hz' := hz.later hb3
          have hB' : Below w.heap.size w w3 := hB.trans (hb3.mono hB.size)
          clear hz hB hkey hb3
          have hz := hz'
          have hB := hB'
          clear hz' hB'
          have f0 := frozen_of_row w3 _ 0 _ _ hz
          have f1 := frozen_of_row w3 _ 1 _ _ hz
          have f2 := frozen_of_row w3 _ 2 _ _ hz
          have c0 := cell_of_row w3 _ 0 _ _ _ hz
          have c1 := cell_of_row w3 _ 1 _ _ _ hz
          have c2 := cell_of_row w3 _ 2 _ _ _ hz
          cases K with
          | true =>
            rw [if_pos rfl] at HV
            go_wp2
            exact bodyPost_ret (results_row_tmp Tryd.results18 _ _ w.heap.size 32 _ (0, 0) _ rfl (set3_row hz _ _ _) Tryd.underlying32 rfl (by kernel_rfl)) rfl ⟨HV.out, set3_below hB _ (Nat.le_refl _) _ _ _⟩
          | false =>
            rw [if_neg (by simp)] at HV
            by_cases h16 : 16 < e - a
            · rw [if_pos h16] at HV
              have h16' : (16 : Int) < ((e - a : Nat) : Int) := by omega
              have hsx' : ((s.extract a e).size : Int) = ((e - a : Nat) : Int) := by rw [hsx]
              first
              | (exfalso; omega)
              | (go_wp2; exact bodyPost_ret (results_row_tmp Tryd.results18 _ _ w.heap.size 32 _ (0, 0) _ rfl (set3_row hz _ _ _) Tryd.underlying32 rfl (by kernel_rfl)) rfl ⟨HV.out, set3_below hB _ (Nat.le_refl _) _ _ _⟩)
            · rw [if_neg h16] at HV
              have h16' : ¬ (16 : Int) < ((e - a : Nat) : Int) := by omega
              have hsx' : ((s.extract a e).size : Int) = ((e - a : Nat) : Int) := by rw [hsx]
              go_wp2
              exact bodyPost_ret (results_row_tmp Tryd.results18 _ _ w.heap.size 32 _ (0, 0) _ rfl (set3_row hz _ _ _) Tryd.underlying32 rfl (by kernel_rfl)) rfl ⟨HV.out, set3_below hB _ (Nat.le_refl _) _ _ _⟩
      · obtain rfl : s.size = e := by omega
        have hle' : ¬ ((s.size : Nat) : Int) < (s.size : Int) := by omega
        have hrun := run_from inNameB hae (Nat.le_refl _) hj.out (fun h => absurd h (Nat.lt_irrefl _))
        have hV := HV.out s.size hrun hae hes
        clear HV hrun hj
        have hkey := rkey_any (s.extract a s.size)
        have hsx : (s.extract a s.size).size = s.size - a := by rw [ByteArray.size_extract]; omega
        have haE : (a : Int) ≤ (s.size : Int) := by omega
        have hEs : ((s.size : Nat) : Int) ≤ (s.size : Int) := by omega
        obtain ⟨K, hK⟩ : ∃ K, keyB (s.extract a s.size).data.toList = K := ⟨_, rfl⟩
        rw [hK] at hkey hV
        rw [hsx] at hV
        have HV : Hid (PO _) := hV
        clear hK hV
        go_wp2_with fail
        refine (hkey _).mono ?_
        rintro e1 w3 ⟨rfl, hb3⟩
        have hz' := hz.later hb3
        have hB' : Below w.heap.size w w3 := hB.trans (hb3.mono hB.size)
        clear hz hB hkey hb3
        have hz := hz'
        have hB := hB'
        clear hz' hB'
        have f0 := frozen_of_row w3 _ 0 _ _ hz
        have f1 := frozen_of_row w3 _ 1 _ _ hz
        have f2 := frozen_of_row w3 _ 2 _ _ hz
        have c0 := cell_of_row w3 _ 0 _ _ _ hz
        have c1 := cell_of_row w3 _ 1 _ _ _ hz
        have c2 := cell_of_row w3 _ 2 _ _ _ hz
        cases K with
        | true =>
          rw [if_pos rfl] at HV
          go_wp2
          exact bodyPost_ret (results_row_tmp Tryd.results18 _ _ w.heap.size 32 _ (0, 0) _ rfl (set3_row hz _ _ _) Tryd.underlying32 rfl (by kernel_rfl)) rfl ⟨HV.out, set3_below hB _ (Nat.le_refl _) _ _ _⟩
        | false =>
          rw [if_neg (by simp)] at HV
          by_cases h16 : 16 < s.size - a
          · rw [if_pos h16] at HV
            have h16' : (16 : Int) < ((s.size - a : Nat) : Int) := by omega
            have hsx' : ((s.extract a s.size).size : Int) = ((s.size - a : Nat) : Int) := by rw [hsx]
            first
            | (exfalso; omega)
            | (go_wp2; exact bodyPost_ret (results_row_tmp Tryd.results18 _ _ w.heap.size 32 _ (0, 0) _ rfl (set3_row hz _ _ _) Tryd.underlying32 rfl (by kernel_rfl)) rfl ⟨HV.out, set3_below hB _ (Nat.le_refl _) _ _ _⟩)
          · rw [if_neg h16] at HV
            have h16' : ¬ (16 : Int) < ((s.size - a : Nat) : Int) := by omega
            have hsx' : ((s.extract a s.size).size : Int) = ((s.size - a : Nat) : Int) := by rw [hsx]
            go_wp2
            exact bodyPost_ret (results_row_tmp Tryd.results18 _ _ w.heap.size 32 _ (0, 0) _ rfl (set3_row hz _ _ _) Tryd.underlying32 rfl (by kernel_rfl)) rfl ⟨HV.out, set3_below hB _ (Nat.le_refl _) _ _ _⟩
  · obtain ⟨hn1, hn2⟩ := hnx
    rw [hn1] at hcl
    go_wp2_with fail
    refine (hcl _).mono ?_
    rintro e w2 ⟨rfl, rfl⟩
    obtain ⟨w1, hw1⟩ : ∃ w1, w1 = w.alloc (.cells #[.int .i64 0, .string ⟨#[]⟩, .int .i64 0] 32) := ⟨_, rfl⟩
    have hz : Z3 w1 w.heap.size 32 := by rw [hw1]; exact Z3.new w 32
    have hB : Below w.heap.size w w1 := by rw [hw1]; exact (Below.refl _ w).alloc (Nat.le_refl _) _
    rw [← hw1]
    clear hw1
    go_wp2
    go_loopw [13] (fun c13 wr => ∃ e : Nat, a ≤ e ∧ e ≤ s.size ∧ c13 = .int .i64 (e : Int) ∧ Hid (∀ j, a ≤ j → j < e → inNameB (chr s j) = true) ∧ wr = w1) (fun c13 _ => s.size - (intOf c13).toNat)
    case atStart =>
      have h : ∀ j, a ≤ j → j < a → inNameB (chr s j) = true := fun j h1 h2 => by omega
      exact ⟨a, Nat.le_refl _, by omega, rfl, h, rfl⟩
    case round =>
      obtain ⟨e, hae, hes, rfl, hj, hw⟩ := hrel
      have hw' := hw.symm
      subst hw'
      clear hw
      by_cases hle : e < s.size
      · have hle' : (e : Int) < (s.size : Int) := by omega
        have hce2 : ((s[e].toNat : Nat) : Int) = chr s e := chr_eq s e hle
        have hcl2 := class_any (chr s e)
        have hnext : inNameB (chr s e) = true → Hid (∀ j, a ≤ j → j < e + 1 → inNameB (chr s j) = true) := fun hp => by
          have h : ∀ j, a ≤ j → j < e + 1 → inNameB (chr s j) = true := fun j h1 h2 => by
            rcases Nat.lt_or_ge j e with k | k
            · exact hj.out j h1 k
            · obtain rfl : j = e := by omega
              exact hp
          exact h
        obtain ⟨x, hx⟩ : ∃ x, chr s e = x := ⟨_, rfl⟩
        have hcx := class_one x
        rw [hx] at hce2 hcl2 hnext
        have HX : Hid (chr s e = x) := hx
        clear hx
        rcases hcx with ⟨hc1, hin⟩ | ⟨hc1, hin⟩ | ⟨hc1, hc2, hin⟩
        · rw [hc1] at hcl2
          clear hc1
          go_wp2_with fail
          refine (hcl2 _).mono ?_
          rintro e1 w2 ⟨rfl, rfl⟩
          go_wp2
          refine ⟨⟨e + 1, by omega, by omega, by go_num, hnext hin, trivial⟩, ?_⟩
          simp [intOf]
          omega
        · rw [hc1] at hcl2
          clear hc1
          go_wp2_with fail
          refine (hcl2 _).mono ?_
          rintro e1 w2 ⟨rfl, rfl⟩
          go_wp2_with fail
          refine (hcl2 _).mono ?_
          rintro e1 w2 ⟨rfl, rfl⟩
          go_wp2
          refine ⟨⟨e + 1, by omega, by omega, by go_num, hnext hin, trivial⟩, ?_⟩
          simp [intOf]
          omega
        · have hrun := run_from inNameB hae hes hj.out (fun _ => by rw [HX.out]; exact hin)
          obtain ⟨y, hy⟩ : ∃ y, classI x = y := ⟨_, rfl⟩
          rw [hy] at hcl2 hc1 hc2
          clear hy hnext hin
          go_wp2_with fail
          refine (hcl2 _).mono ?_
          rintro e1 w2 ⟨rfl, rfl⟩
          go_wp2_with fail
          refine (hcl2 _).mono ?_
          rintro e1 w2 ⟨rfl, rfl⟩
          have hV := HV.out e hrun hae hes
          clear HV hrun hj
          have hkey := rkey_any (s.extract a e)
          have hsx : (s.extract a e).size = e - a := by rw [ByteArray.size_extract]; omega
          have haE : (a : Int) ≤ (e : Int) := by omega
          have hEs : ((e : Nat) : Int) ≤ (s.size : Int) := by omega
          obtain ⟨K, hK⟩ : ∃ K, keyB (s.extract a e).data.toList = K := ⟨_, rfl⟩
          rw [hK] at hkey hV
          rw [hsx] at hV
          have HV : Hid (PO _) := hV
          clear hK hV
          go_wp2_with fail
          refine (hkey _).mono ?_
          rintro e1 w3 ⟨rfl, hb3⟩
          have hz' := hz.later hb3
          have hB' : Below w.heap.size w w3 := hB.trans (hb3.mono hB.size)
          clear hz hB hkey hb3
          have hz := hz'
          have hB := hB'
          clear hz' hB'
          have f0 := frozen_of_row w3 _ 0 _ _ hz
          have f1 := frozen_of_row w3 _ 1 _ _ hz
          have f2 := frozen_of_row w3 _ 2 _ _ hz
          have c0 := cell_of_row w3 _ 0 _ _ _ hz
          have c1 := cell_of_row w3 _ 1 _ _ _ hz
          have c2 := cell_of_row w3 _ 2 _ _ _ hz
          cases K with
          | true =>
            rw [if_pos rfl] at HV
            go_wp2
            exact bodyPost_ret (results_row_tmp Tryd.results18 _ _ w.heap.size 32 _ (0, 0) _ rfl (set3_row hz _ _ _) Tryd.underlying32 rfl (by kernel_rfl)) rfl ⟨HV.out, set3_below hB _ (Nat.le_refl _) _ _ _⟩
          | false =>
            rw [if_neg (by simp)] at HV
            by_cases h16 : 16 < e - a
            · rw [if_pos h16] at HV
              have h16' : (16 : Int) < ((e - a : Nat) : Int) := by omega
              have hsx' : ((s.extract a e).size : Int) = ((e - a : Nat) : Int) := by rw [hsx]
              first
              | (exfalso; omega)
              | (go_wp2; exact bodyPost_ret (results_row_tmp Tryd.results18 _ _ w.heap.size 32 _ (0, 0) _ rfl (set3_row hz _ _ _) Tryd.underlying32 rfl (by kernel_rfl)) rfl ⟨HV.out, set3_below hB _ (Nat.le_refl _) _ _ _⟩)
            · rw [if_neg h16] at HV
              have h16' : ¬ (16 : Int) < ((e - a : Nat) : Int) := by omega
              have hsx' : ((s.extract a e).size : Int) = ((e - a : Nat) : Int) := by rw [hsx]
              go_wp2
              exact bodyPost_ret (results_row_tmp Tryd.results18 _ _ w.heap.size 32 _ (0, 0) _ rfl (set3_row hz _ _ _) Tryd.underlying32 rfl (by kernel_rfl)) rfl ⟨HV.out, set3_below hB _ (Nat.le_refl _) _ _ _⟩
      · obtain rfl : s.size = e := by omega
        have hle' : ¬ ((s.size : Nat) : Int) < (s.size : Int) := by omega
        have hrun := run_from inNameB hae (Nat.le_refl _) hj.out (fun h => absurd h (Nat.lt_irrefl _))
        have hV := HV.out s.size hrun hae hes
        clear HV hrun hj
        have hkey := rkey_any (s.extract a s.size)
        have hsx : (s.extract a s.size).size = s.size - a := by rw [ByteArray.size_extract]; omega
        have haE : (a : Int) ≤ (s.size : Int) := by omega
        have hEs : ((s.size : Nat) : Int) ≤ (s.size : Int) := by omega
        obtain ⟨K, hK⟩ : ∃ K, keyB (s.extract a s.size).data.toList = K := ⟨_, rfl⟩
        rw [hK] at hkey hV
        rw [hsx] at hV
        have HV : Hid (PO _) := hV
        clear hK hV
        go_wp2_with fail
        refine (hkey _).mono ?_
        rintro e1 w3 ⟨rfl, hb3⟩
        have hz' := hz.later hb3
        have hB' : Below w.heap.size w w3 := hB.trans (hb3.mono hB.size)
        clear hz hB hkey hb3
        have hz := hz'
        have hB := hB'
        clear hz' hB'
        have f0 := frozen_of_row w3 _ 0 _ _ hz
        have f1 := frozen_of_row w3 _ 1 _ _ hz
        have f2 := frozen_of_row w3 _ 2 _ _ hz
        have c0 := cell_of_row w3 _ 0 _ _ _ hz
        have c1 := cell_of_row w3 _ 1 _ _ _ hz
        have c2 := cell_of_row w3 _ 2 _ _ _ hz
        cases K with
        | true =>
          rw [if_pos rfl] at HV
          go_wp2
          exact bodyPost_ret (results_row_tmp Tryd.results18 _ _ w.heap.size 32 _ (0, 0) _ rfl (set3_row hz _ _ _) Tryd.underlying32 rfl (by kernel_rfl)) rfl ⟨HV.out, set3_below hB _ (Nat.le_refl _) _ _ _⟩
        | false =>
          rw [if_neg (by simp)] at HV
          by_cases h16 : 16 < s.size - a
          · rw [if_pos h16] at HV
            have h16' : (16 : Int) < ((s.size - a : Nat) : Int) := by omega
            have hsx' : ((s.extract a s.size).size : Int) = ((s.size - a : Nat) : Int) := by rw [hsx]
            first
            | (exfalso; omega)
            | (go_wp2; exact bodyPost_ret (results_row_tmp Tryd.results18 _ _ w.heap.size 32 _ (0, 0) _ rfl (set3_row hz _ _ _) Tryd.underlying32 rfl (by kernel_rfl)) rfl ⟨HV.out, set3_below hB _ (Nat.le_refl _) _ _ _⟩)
          · rw [if_neg h16] at HV
            have h16' : ¬ (16 : Int) < ((s.size - a : Nat) : Int) := by omega
            have hsx' : ((s.extract a s.size).size : Int) = ((s.size - a : Nat) : Int) := by rw [hsx]
            go_wp2
            exact bodyPost_ret (results_row_tmp Tryd.results18 _ _ w.heap.size 32 _ (0, 0) _ rfl (set3_row hz _ _ _) Tryd.underlying32 rfl (by kernel_rfl)) rfl ⟨HV.out, set3_below hB _ (Nat.le_refl _) _ _ _⟩
  · obtain ⟨hn1, hn2, hn3, hn4⟩ := hnx
    rw [hn1] at hcl
    go_wp2_with fail
    refine (hcl _).mono ?_
    rintro e w2 ⟨rfl, rfl⟩
    obtain ⟨w1, hw1⟩ : ∃ w1, w1 = w.alloc (.cells #[.int .i64 0, .string ⟨#[]⟩, .int .i64 0] 32) := ⟨_, rfl⟩
    have hz : Z3 w1 w.heap.size 32 := by rw [hw1]; exact Z3.new w 32
    have hB : Below w.heap.size w w1 := by rw [hw1]; exact (Below.refl _ w).alloc (Nat.le_refl _) _
    rw [← hw1]
    clear hw1
    go_wp2
    go_loopw [13] (fun c13 wr => ∃ e : Nat, a ≤ e ∧ e ≤ s.size ∧ c13 = .int .i64 (e : Int) ∧ Hid (∀ j, a ≤ j → j < e → inNameB (chr s j) = true) ∧ wr = w1) (fun c13 _ => s.size - (intOf c13).toNat)
    case atStart =>
      have h : ∀ j, a ≤ j → j < a → inNameB (chr s j) = true := fun j h1 h2 => by omega
      exact ⟨a, Nat.le_refl _, by omega, rfl, h, rfl⟩
    case round =>
      obtain ⟨e, hae, hes, rfl, hj, hw⟩ := hrel
      have hw' := hw.symm
      subst hw'
      clear hw
      by_cases hle : e < s.size
      · have hle' : (e : Int) < (s.size : Int) := by omega
        have hce2 : ((s[e].toNat : Nat) : Int) = chr s e := chr_eq s e hle
        have hcl2 := class_any (chr s e)
        have hnext : inNameB (chr s e) = true → Hid (∀ j, a ≤ j → j < e + 1 → inNameB (chr s j) = true) := fun hp => by
          have h : ∀ j, a ≤ j → j < e + 1 → inNameB (chr s j) = true := fun j h1 h2 => by
            rcases Nat.lt_or_ge j e with k | k
            · exact hj.out j h1 k
            · obtain rfl : j = e := by omega
              exact hp
          exact h
        obtain ⟨x, hx⟩ : ∃ x, chr s e = x := ⟨_, rfl⟩
        have hcx := class_one x
        rw [hx] at hce2 hcl2 hnext
        have HX : Hid (chr s e = x) := hx
        clear hx
        rcases hcx with ⟨hc1, hin⟩ | ⟨hc1, hin⟩ | ⟨hc1, hc2, hin⟩
        · rw [hc1] at hcl2
          clear hc1
          go_wp2_with fail
          refine (hcl2 _).mono ?_
          rintro e1 w2 ⟨rfl, rfl⟩
          go_wp2
          refine ⟨⟨e + 1, by omega, by omega, by go_num, hnext hin, trivial⟩, ?_⟩
          simp [intOf]
          omega
        · rw [hc1] at hcl2
          clear hc1
          go_wp2_with fail
          refine (hcl2 _).mono ?_
          rintro e1 w2 ⟨rfl, rfl⟩
          go_wp2_with fail
          refine (hcl2 _).mono ?_
          rintro e1 w2 ⟨rfl, rfl⟩
          go_wp2
          refine ⟨⟨e + 1, by omega, by omega, by go_num, hnext hin, trivial⟩, ?_⟩
          simp [intOf]
          omega
        · have hrun := run_from inNameB hae hes hj.out (fun _ => by rw [HX.out]; exact hin)
          obtain ⟨y, hy⟩ : ∃ y, classI x = y := ⟨_, rfl⟩
          rw [hy] at hcl2 hc1 hc2
          clear hy hnext hin
          go_wp2_with fail
          refine (hcl2 _).mono ?_
          rintro e1 w2 ⟨rfl, rfl⟩
          go_wp2_with fail
          refine (hcl2 _).mono ?_
          rintro e1 w2 ⟨rfl, rfl⟩
          have hV := HV.out e hrun hae hes
          clear HV hrun hj
          have hkey := rkey_any (s.extract a e)
          have hsx : (s.extract a e).size = e - a := by rw [ByteArray.size_extract]; omega
          have haE : (a : Int) ≤ (e : Int) := by omega
          have hEs : ((e : Nat) : Int) ≤ (s.size : Int) := by omega
          obtain ⟨K, hK⟩ : ∃ K, keyB (s.extract a e).data.toList = K := ⟨_, rfl⟩
          rw [hK] at hkey hV
          rw [hsx] at hV
          have HV : Hid (PO _) := hV
          clear hK hV
          go_wp2_with fail
          refine (hkey _).mono ?_
          rintro e1 w3 ⟨rfl, hb3⟩
          have hz' := hz.later hb3
          have hB' : Below w.heap.size w w3 := hB.trans (hb3.mono hB.size)
          clear hz hB hkey hb3
          have hz := hz'
          have hB := hB'
          clear hz' hB'
          have f0 := frozen_of_row w3 _ 0 _ _ hz
          have f1 := frozen_of_row w3 _ 1 _ _ hz
          have f2 := frozen_of_row w3 _ 2 _ _ hz
          have c0 := cell_of_row w3 _ 0 _ _ _ hz
          have c1 := cell_of_row w3 _ 1 _ _ _ hz
          have c2 := cell_of_row w3 _ 2 _ _ _ hz
          cases K with
          | true =>
            rw [if_pos rfl] at HV
            go_wp2
            exact bodyPost_ret (results_row_tmp Tryd.results18 _ _ w.heap.size 32 _ (0, 0) _ rfl (set3_row hz _ _ _) Tryd.underlying32 rfl (by kernel_rfl)) rfl ⟨HV.out, set3_below hB _ (Nat.le_refl _) _ _ _⟩
          | false =>
            rw [if_neg (by simp)] at HV
            by_cases h16 : 16 < e - a
            · rw [if_pos h16] at HV
              have h16' : (16 : Int) < ((e - a : Nat) : Int) := by omega
              have hsx' : ((s.extract a e).size : Int) = ((e - a : Nat) : Int) := by rw [hsx]
              first
              | (exfalso; omega)
              | (go_wp2; exact bodyPost_ret (results_row_tmp Tryd.results18 _ _ w.heap.size 32 _ (0, 0) _ rfl (set3_row hz _ _ _) Tryd.underlying32 rfl (by kernel_rfl)) rfl ⟨HV.out, set3_below hB _ (Nat.le_refl _) _ _ _⟩)
            · rw [if_neg h16] at HV
              have h16' : ¬ (16 : Int) < ((e - a : Nat) : Int) := by omega
              have hsx' : ((s.extract a e).size : Int) = ((e - a : Nat) : Int) := by rw [hsx]
              go_wp2
              exact bodyPost_ret (results_row_tmp Tryd.results18 _ _ w.heap.size 32 _ (0, 0) _ rfl (set3_row hz _ _ _) Tryd.underlying32 rfl (by kernel_rfl)) rfl ⟨HV.out, set3_below hB _ (Nat.le_refl _) _ _ _⟩
      · obtain rfl : s.size = e := by omega
        have hle' : ¬ ((s.size : Nat) : Int) < (s.size : Int) := by omega
        have hrun := run_from inNameB hae (Nat.le_refl _) hj.out (fun h => absurd h (Nat.lt_irrefl _))
        have hV := HV.out s.size hrun hae hes
        clear HV hrun hj
        have hkey := rkey_any (s.extract a s.size)
        have hsx : (s.extract a s.size).size = s.size - a := by rw [ByteArray.size_extract]; omega
        have haE : (a : Int) ≤ (s.size : Int) := by omega
        have hEs : ((s.size : Nat) : Int) ≤ (s.size : Int) := by omega
        obtain ⟨K, hK⟩ : ∃ K, keyB (s.extract a s.size).data.toList = K := ⟨_, rfl⟩
        rw [hK] at hkey hV
        rw [hsx] at hV
        have HV : Hid (PO _) := hV
        clear hK hV
        go_wp2_with fail
        refine (hkey _).mono ?_
        rintro e1 w3 ⟨rfl, hb3⟩
        have hz' := hz.later hb3
        have hB' : Below w.heap.size w w3 := hB.trans (hb3.mono hB.size)
        clear hz hB hkey hb3
        have hz := hz'
        have hB := hB'
        clear hz' hB'
        have f0 := frozen_of_row w3 _ 0 _ _ hz
        have f1 := frozen_of_row w3 _ 1 _ _ hz
        have f2 := frozen_of_row w3 _ 2 _ _ hz
        have c0 := cell_of_row w3 _ 0 _ _ _ hz
        have c1 := cell_of_row w3 _ 1 _ _ _ hz
        have c2 := cell_of_row w3 _ 2 _ _ _ hz
        cases K with
        | true =>
          rw [if_pos rfl] at HV
          go_wp2
          exact bodyPost_ret (results_row_tmp Tryd.results18 _ _ w.heap.size 32 _ (0, 0) _ rfl (set3_row hz _ _ _) Tryd.underlying32 rfl (by kernel_rfl)) rfl ⟨HV.out, set3_below hB _ (Nat.le_refl _) _ _ _⟩
        | false =>
          rw [if_neg (by simp)] at HV
          by_cases h16 : 16 < s.size - a
          · rw [if_pos h16] at HV
            have h16' : (16 : Int) < ((s.size - a : Nat) : Int) := by omega
            have hsx' : ((s.extract a s.size).size : Int) = ((s.size - a : Nat) : Int) := by rw [hsx]
            first
            | (exfalso; omega)
            | (go_wp2; exact bodyPost_ret (results_row_tmp Tryd.results18 _ _ w.heap.size 32 _ (0, 0) _ rfl (set3_row hz _ _ _) Tryd.underlying32 rfl (by kernel_rfl)) rfl ⟨HV.out, set3_below hB _ (Nat.le_refl _) _ _ _⟩)
          · rw [if_neg h16] at HV
            have h16' : ¬ (16 : Int) < ((s.size - a : Nat) : Int) := by omega
            have hsx' : ((s.extract a s.size).size : Int) = ((s.size - a : Nat) : Int) := by rw [hsx]
            go_wp2
            exact bodyPost_ret (results_row_tmp Tryd.results18 _ _ w.heap.size 32 _ (0, 0) _ rfl (set3_row hz _ _ _) Tryd.underlying32 rfl (by kernel_rfl)) rfl ⟨HV.out, set3_below hB _ (Nat.le_refl _) _ _ _⟩
end Go.Proofs.YticmoapmolmcjaaDoor
