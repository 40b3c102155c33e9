/- LexBlanks, called. -/
import Derived.Test.YticmoapmolmcjaaDoorAw
import Derived.Test.YticmoapmolmcjaaDoorBl
import Derived.Test.YticmoapmolmcjaaDoorQul
import Derived.Deep.RegionHeld3
namespace Go.Proofs.YticmoapmolmcjaaDoor
open Go.RowKit Go.Shelf
theorem wdC_at : ∀ (ws : List Wd) (i : Nat) (x : Wd), ws[i]? = some x → (wdC ws)[i * 3]? = some (.int .i64 (x.k : Int)) ∧ (wdC ws)[i * 3 + 1]? = some (.string ⟨x.s.toArray⟩) ∧ (wdC ws)[i * 3 + 2]? = some (.int .i64 (x.a : Int))
  | [], i, x, h => by simp at h
  | y :: ws, 0, x, h => by
    injection h with h
    subst h
    exact ⟨rfl, rfl, rfl⟩
  | y :: ws, i + 1, x, h => by
    have h2 := wdC_at ws i x (by simpa using h)
    have e : wdC (y :: ws) = wd1 y ++ wdC ws := rfl
    rw [e]
    have hl : (wd1 y).length = 3 := rfl
    rw [List.getElem?_append_right (by omega), List.getElem?_append_right (by omega), List.getElem?_append_right (by omega), hl]
    rw [show (i + 1) * 3 - 3 = i * 3 by omega, show (i + 1) * 3 + 1 - 3 = i * 3 + 1 by omega, show (i + 1) * 3 + 2 - 3 = i * 3 + 2 by omega]
    exact h2
theorem blanks_pre (k : Nat) (h : k ≤ 3) : (∀ c ∈ ([32, 10, 9, 32] : List UInt8).take k, blankB (c.toNat : Int) = true) ∧ (∀ c ∈ ([9, 10] : List UInt8).take (k / 2), blankB (c.toNat : Int) = true) ∧ (([32, 10, 9, 32] : List UInt8).take k).length = k := by
  have : ∀ k : Fin 4, (∀ c ∈ ([32, 10, 9, 32] : List UInt8).take k.val, blankB (c.toNat : Int) = true) ∧ (∀ c ∈ ([9, 10] : List UInt8).take (k.val / 2), blankB (c.toNat : Int) = true) ∧ (([32, 10, 9, 32] : List UInt8).take k.val).length = k.val := by decide +kernel
  exact this ⟨k, by omega⟩
set_option maxRecDepth 20000 in
set_option maxHeartbeats 8000000 in
theorem blanks_walk (s : ByteArray) (n : Int) (W : World) (he : Er W) : Calls Tryd.prog 5 #[.string s, .int .i64 n] W fun e w' => e = .returned (.bool true) ∧ Below W.heap.size W w' := by
  have ha := i64_and3 n
  obtain ⟨k, hk, hk3⟩ : ∃ k : Nat, n % 4 = (k : Int) ∧ k ≤ 3 := ⟨(n % 4).toNat, by omega, by omega⟩
  rw [hk] at ha
  clear hk
  obtain ⟨k2, hk2, hk2e, hk21⟩ : ∃ k2 : Nat, (k : Int) / 2 = (k2 : Int) ∧ k / 2 = k2 ∧ k2 ≤ 1 := ⟨k / 2, by omega, rfl, by omega⟩
  have hk2t : (k : Int).tdiv 2 = (k2 : Int) := by rw [Int.tdiv_eq_ediv_of_nonneg (by omega)]; exact hk2
  have hk4 : (k : Int) ≤ 4 := by omega
  have hk22 : (k2 : Int) ≤ 2 := by omega
  have hkw : IntKind.i64.wrap (k2 : Int) = (k2 : Int) := by rw [IntKind.wrap_i64]; omega
  have hbp := blanks_pre k hk3
  rw [hk2e] at hbp
  obtain ⟨A, hA⟩ : ∃ A, (⟨#[32, 10, 9, 32]⟩ : ByteArray).extract 0 k = A := ⟨_, rfl⟩
  obtain ⟨P, hP⟩ : ∃ P, (⟨#[9, 10]⟩ : ByteArray).extract 0 k2 = P := ⟨_, rfl⟩
  have hAl : A.data.toList = ([32, 10, 9, 32] : List UInt8).take k := by rw [← hA, ext_take]
  have hPl : P.data.toList = ([9, 10] : List UInt8).take k2 := by rw [← hP, ext_take]
  rw [← hAl, ← hPl] at hbp
  have hAs : A.size ≤ 3 := by rw [Lib.size_eq, hAl]; simp; omega
  have hPs : P.size ≤ 1 := by rw [Lib.size_eq, hPl]; simp; omega
  have HBP : Hid ((∀ c ∈ A.data.toList, blankB (c.toNat : Int) = true) ∧ (∀ c ∈ P.data.toList, blankB (c.toNat : Int) = true) ∧ A.data.toList.length = k) := by
    rw [hAl, hPl] at hbp
    have : (∀ c ∈ A.data.toList, blankB (c.toNat : Int) = true) ∧ (∀ c ∈ P.data.toList, blankB (c.toNat : Int) = true) ∧ A.data.toList.length = k := by
      rw [hAl, hPl]
      exact hbp
    exact this
  clear hbp hAl hPl hk2e hk2
  by_cases h600 : 600 < s.size
  · have h600' : (600 : Int) < (s.size : Int) := by omega
    have h600l : (600 : Int) ≤ (s.size : Int) := by omega
    have htz : (s.extract 0 600).size = 600 := by rw [ByteArray.size_extract]; omega
    obtain ⟨t, ht⟩ : ∃ t, s.extract 0 600 = t := ⟨_, rfl⟩
    rw [ht] at htz
    have htz' : t.size ≤ 600 := by omega
    clear htz
    have hno1 : ¬ 9223372036854775807 < A.size + t.size := by omega
    have hno2 : ¬ 9223372036854775807 < A.size + t.size + P.size := by omega
    have w1 := words_any t (by omega) W he
    have w2 := words_any (A ++ t ++ P) (by rw [ByteArray.size_append, ByteArray.size_append]; omega)
    have hdt : (A ++ t ++ P).data.toList = A.data.toList ++ t.data.toList ++ P.data.toList := by rw [ByteArray.data_append, ByteArray.data_append]; simp
    have hls := Lib.size_eq t
    have hlA := Lib.size_eq A
    have hlP := Lib.size_eq P
    have hbl := words_blanks HBP.out.1 HBP.out.2.1 (l := t.data.toList) (by simp only [List.length_append]; omega)
    rw [HBP.out.2.2] at hbl
    rw [hdt] at w2
    obtain ⟨R1, hR1⟩ : ∃ R, wordsR t.data.toList = R := ⟨_, rfl⟩
    obtain ⟨R2, hR2⟩ : ∃ R, wordsR (A.data.toList ++ t.data.toList ++ P.data.toList) = R := ⟨_, rfl⟩
    have hmany := wordsR_many t.data.toList
    have hplc : ∀ x ∈ (wordsR t.data.toList).1, x.a ≤ 600 := fun x hx => by have := words_place hx; omega
    rw [hR1] at w1 hbl hmany hplc
    rw [hR2] at w2 hbl
    obtain ⟨ws, p1, e1⟩ := R1
    obtain ⟨vs, p2, e2⟩ := R2
    simp only at w1 w2 hbl hmany hplc
    have HPLC : Hid (∀ x ∈ ws, x.a ≤ 600) := hplc
    clear hplc
    obtain ⟨rfl, hlen, hall⟩ := hbl
    rw [hlen] at w2
    have HLEN : Hid (vs.length = ws.length) := hlen
    have HALL : Hid (∀ i x, ws[i]? = some x → ∃ y, vs[i]? = some y ∧ y.k = x.k ∧ y.s = x.s ∧ (i + 1 < ws.length → y.a = x.a + k)) := hall
    have hmany' : ws.length ≤ 601 := by omega
    clear hR1 hR2 hlen hall hdt hls hlA hlP hmany
    go_enter Tryd.func5, Tryd.ntmps5
    go_wp2_with fail
    refine w1.mono ?_
    rintro e wa ⟨p, cc, rfl, hsl1, hb1⟩
    go_wp2
    have w2' : ∀ wx, Below wa.heap.size wa wx → Calls Tryd.prog 9 #[.string (A ++ t ++ P)] wx fun e w' => ∃ q cd, e = .returned (.tuple #[.slice q ws.length cd, .int .i64 (p2 : Int), .int .i64 (e2 : Int)]) ∧ Sl w' q ws.length cd (wdC vs) ∧ Below wa.heap.size wa w' := by
      intro wx hx
      refine (w2 wx ((he.later hb1).later hx)).mono ?_
      rintro e wy ⟨q, cd, rfl, h1, h2⟩
      exact ⟨q, cd, rfl, h1, hx.trans (h2.mono hx.size)⟩
    clear w2
    go_region_held3 (fun w' => Below wa.heap.size wa w') (first | assumption | exact (Below.refl _ wa).drew | exact Below.refl _ wa) ((go_at_call 9; refine (w2' _ (by assumption)).mono ?_; rintro e wb ⟨q, cd, rfl, hsl2, hb2'⟩))
    go_wp2_with fail
    refine (awake_any _ ((he.later hb1).later hb2')).mono ?_
    rintro e wc ⟨rfl, hb3⟩
    have hs1 := (hsl1.later hb2').later hb3
    have hs2 := hsl2.later hb3
    have hs0 := hb1.size
    have hs0' := hb2'.size
    have hB : Below W.heap.size W wc := (hb1.trans (hb2'.mono hs0)).trans (hb3.mono (by omega))
    have hcap1 := hs1.cap
    have hcap2 := hs2.cap
    clear hsl1 hsl2 w1 w2' hb1 hb2' hb3 hs0 hs0'
    go_wp2
    go_loopw [13] (fun c13 wr => ∃ i : Nat, i ≤ ws.length ∧ c13 = .int .i64 (i : Int) ∧ Below wc.heap.size wc wr) (fun c13 _ => ws.length - (intOf c13).toNat)
    case atStart => exact ⟨0, by omega, rfl, Below.refl _ _⟩
    case round =>
      obtain ⟨i, hi, rfl, hbr⟩ := hrel
      by_cases hlt : i < ws.length
      · have hlt' : (i : Int) < (ws.length : Int) := by omega
        obtain ⟨x, hx⟩ : ∃ x, ws[i]? = some x := ⟨_, List.getElem?_eq_getElem hlt⟩
        obtain ⟨y, hy, hyk, hys, hya⟩ := HALL.out i x hx
        obtain ⟨b1, rfl, hl1, hc1⟩ := (hs1.later hbr).lies (by omega)
        obtain ⟨b2, rfl, hl2, hc2⟩ := (hs2.later hbr).lies (by omega)
        have hx3 := wdC_at ws i x hx
        have hy3 := wdC_at vs i y hy
        have k10 := hc1 _ _ hx3.1
        have k11 := hc1 _ _ hx3.2.1
        have k12 := hc1 _ _ hx3.2.2
        have k20 := hc2 _ _ hy3.1
        have k21 := hc2 _ _ hy3.2.1
        have k22 := hc2 _ _ hy3.2.2
        have hpx := HPLC.out x (List.mem_of_getElem? hx)
        rw [hyk] at k20
        rw [hys] at k21
        clear hc1 hc2 hx3 hy3 hx hy hyk hys
        obtain ⟨xk, xs, xa⟩ := x
        obtain ⟨yk, ys, ya⟩ := y
        simp only at k10 k11 k12 k20 k21 k22 hya hpx
        by_cases hlast : i + 1 < ws.length
        · have hlast' : (i : Int) + 1 < (ws.length : Int) := by omega
          have hyb := hya hlast
          clear hya
          subst hyb
          rw [Int.natCast_add] at k22
          go_wp2
          go_quiet (fail)
          go_wp2
          refine ⟨⟨i + 1, by omega, by go_num, below_drewN hbr _⟩, ?_⟩
          simp [intOf]
          omega
        · have hlast' : ¬ (i : Int) + 1 < (ws.length : Int) := by omega
          have hlastd : decide ((i : Int) + 1 < (ws.length : Int)) = false := decide_eq_false hlast'
          clear hya
          go_wp2
          go_quiet (fail)
          go_wp2
          refine ⟨⟨i + 1, by omega, by go_num, below_drewN hbr _⟩, ?_⟩
          simp [intOf]
          omega
      · have hlt' : ¬ (i : Int) < (ws.length : Int) := by omega
        go_wp2
        go_ret
        exact ⟨by simp, hB.trans (hbr.mono hB.size)⟩
  · have h600' : ¬ (600 : Int) < (s.size : Int) := by omega
    have hno1 : ¬ 9223372036854775807 < A.size + s.size := by omega
    have hno2 : ¬ 9223372036854775807 < A.size + s.size + P.size := by omega
    have w1 := words_any s (by omega) W he
    have w2 := words_any (A ++ s ++ P) (by rw [ByteArray.size_append, ByteArray.size_append]; omega)
    have hdt : (A ++ s ++ P).data.toList = A.data.toList ++ s.data.toList ++ P.data.toList := by rw [ByteArray.data_append, ByteArray.data_append]; simp
    have hls := Lib.size_eq s
    have hlA := Lib.size_eq A
    have hlP := Lib.size_eq P
    have hbl := words_blanks HBP.out.1 HBP.out.2.1 (l := s.data.toList) (by simp only [List.length_append]; omega)
    rw [HBP.out.2.2] at hbl
    rw [hdt] at w2
    obtain ⟨R1, hR1⟩ : ∃ R, wordsR s.data.toList = R := ⟨_, rfl⟩
    obtain ⟨R2, hR2⟩ : ∃ R, wordsR (A.data.toList ++ s.data.toList ++ P.data.toList) = R := ⟨_, rfl⟩
    have hmany := wordsR_many s.data.toList
    have hplc : ∀ x ∈ (wordsR s.data.toList).1, x.a ≤ 600 := fun x hx => by have := words_place hx; omega
    rw [hR1] at w1 hbl hmany hplc
    rw [hR2] at w2 hbl
    obtain ⟨ws, p1, e1⟩ := R1
    obtain ⟨vs, p2, e2⟩ := R2
    simp only at w1 w2 hbl hmany hplc
    have HPLC : Hid (∀ x ∈ ws, x.a ≤ 600) := hplc
    clear hplc
    obtain ⟨rfl, hlen, hall⟩ := hbl
    rw [hlen] at w2
    have HLEN : Hid (vs.length = ws.length) := hlen
    have HALL : Hid (∀ i x, ws[i]? = some x → ∃ y, vs[i]? = some y ∧ y.k = x.k ∧ y.s = x.s ∧ (i + 1 < ws.length → y.a = x.a + k)) := hall
    have hmany' : ws.length ≤ 601 := by omega
    clear hR1 hR2 hlen hall hdt hls hlA hlP hmany
    go_enter Tryd.func5, Tryd.ntmps5
    go_wp2_with fail
    refine w1.mono ?_
    rintro e wa ⟨p, cc, rfl, hsl1, hb1⟩
    go_wp2
    have w2' : ∀ wx, Below wa.heap.size wa wx → Calls Tryd.prog 9 #[.string (A ++ s ++ P)] wx fun e w' => ∃ q cd, e = .returned (.tuple #[.slice q ws.length cd, .int .i64 (p2 : Int), .int .i64 (e2 : Int)]) ∧ Sl w' q ws.length cd (wdC vs) ∧ Below wa.heap.size wa w' := by
      intro wx hx
      refine (w2 wx ((he.later hb1).later hx)).mono ?_
      rintro e wy ⟨q, cd, rfl, h1, h2⟩
      exact ⟨q, cd, rfl, h1, hx.trans (h2.mono hx.size)⟩
    clear w2
    go_region_held3 (fun w' => Below wa.heap.size wa w') (first | assumption | exact (Below.refl _ wa).drew | exact Below.refl _ wa) ((go_at_call 9; refine (w2' _ (by assumption)).mono ?_; rintro e wb ⟨q, cd, rfl, hsl2, hb2'⟩))
    go_wp2_with fail
    refine (awake_any _ ((he.later hb1).later hb2')).mono ?_
    rintro e wc ⟨rfl, hb3⟩
    have hs1 := (hsl1.later hb2').later hb3
    have hs2 := hsl2.later hb3
    have hs0 := hb1.size
    have hs0' := hb2'.size
    have hB : Below W.heap.size W wc := (hb1.trans (hb2'.mono hs0)).trans (hb3.mono (by omega))
    have hcap1 := hs1.cap
    have hcap2 := hs2.cap
    clear hsl1 hsl2 w1 w2' hb1 hb2' hb3 hs0 hs0'
    go_wp2
    go_loopw [13] (fun c13 wr => ∃ i : Nat, i ≤ ws.length ∧ c13 = .int .i64 (i : Int) ∧ Below wc.heap.size wc wr) (fun c13 _ => ws.length - (intOf c13).toNat)
    case atStart => exact ⟨0, by omega, rfl, Below.refl _ _⟩
    case round =>
      obtain ⟨i, hi, rfl, hbr⟩ := hrel
      by_cases hlt : i < ws.length
      · have hlt' : (i : Int) < (ws.length : Int) := by omega
        obtain ⟨x, hx⟩ : ∃ x, ws[i]? = some x := ⟨_, List.getElem?_eq_getElem hlt⟩
        obtain ⟨y, hy, hyk, hys, hya⟩ := HALL.out i x hx
        obtain ⟨b1, rfl, hl1, hc1⟩ := (hs1.later hbr).lies (by omega)
        obtain ⟨b2, rfl, hl2, hc2⟩ := (hs2.later hbr).lies (by omega)
        have hx3 := wdC_at ws i x hx
        have hy3 := wdC_at vs i y hy
        have k10 := hc1 _ _ hx3.1
        have k11 := hc1 _ _ hx3.2.1
        have k12 := hc1 _ _ hx3.2.2
        have k20 := hc2 _ _ hy3.1
        have k21 := hc2 _ _ hy3.2.1
        have k22 := hc2 _ _ hy3.2.2
        have hpx := HPLC.out x (List.mem_of_getElem? hx)
        rw [hyk] at k20
        rw [hys] at k21
        clear hc1 hc2 hx3 hy3 hx hy hyk hys
        obtain ⟨xk, xs, xa⟩ := x
        obtain ⟨yk, ys, ya⟩ := y
        simp only at k10 k11 k12 k20 k21 k22 hya hpx
        by_cases hlast : i + 1 < ws.length
        · have hlast' : (i : Int) + 1 < (ws.length : Int) := by omega
          have hyb := hya hlast
          clear hya
          subst hyb
          rw [Int.natCast_add] at k22
          go_wp2
          go_quiet (fail)
          go_wp2
          refine ⟨⟨i + 1, by omega, by go_num, below_drewN hbr _⟩, ?_⟩
          simp [intOf]
          omega
        · have hlast' : ¬ (i : Int) + 1 < (ws.length : Int) := by omega
          have hlastd : decide ((i : Int) + 1 < (ws.length : Int)) = false := decide_eq_false hlast'
          clear hya
          go_wp2
          go_quiet (fail)
          go_wp2
          refine ⟨⟨i + 1, by omega, by go_num, below_drewN hbr _⟩, ?_⟩
          simp [intOf]
          omega
      · have hlt' : ¬ (i : Int) < (ws.length : Int) := by omega
        go_wp2
        go_ret
        exact ⟨by simp, hB.trans (hbr.mono hB.size)⟩
end Go.Proofs.YticmoapmolmcjaaDoor
